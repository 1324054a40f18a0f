/- WalkOf: impl. No condition. -/
import Derived.Test.YtlgeoilnjgojnaaH9
import Derived.Test.YtlgeoilnjgojnaaS4
import Derived.Deep.RegionHeld3
namespace Go.Proofs.Ytlgeoilnjgojnaa
open Go.RowKit

theorem cell_kept {w w' : World} {b off : Nat} {v : Value} (q : Below w.heap.size w w') (hb : b < w.heap.size) (h : w.cell? ⟨b, off, none⟩ = some v) : w'.cell? ⟨b, off, none⟩ = some v := by
  rw [q.cell (p := ⟨b, off, none⟩) hb]; exact h

set_option maxRecDepth 100000 in
theorem wayBetween_any (p s q t x : Int) (w : World) (hp : 0 ≤ p ∧ p ≤ 20) (hq : 0 ≤ q ∧ q ≤ 20) (hx : 0 ≤ x ∧ x ≤ 20) :
    Calls Try.prog 55 #[.agg #[.int .i64 p, .int .i64 s], .agg #[.int .i64 q, .int .i64 t], .int .i64 x] w fun e w' => e = .returned (.int .i64 (dst p q s t x)) ∧ Below w.heap.size w w' := by
  obtain ⟨hp0, hp1⟩ := hp
  obtain ⟨hq0, hq1⟩ := hq
  obtain ⟨hx0, hx1⟩ := hx
  by_cases hst : s = t
  · have ht : (s != t) = false := by simp [hst]
    have HD := Lib.hid (show dst p q s t x = max p q - min p q by simp only [dst, btw, if_pos hst]; omega)
    clear hst
    go_enter Try.func55, Try.ntmps55
    go_wp2
    go_ret
    exact ⟨ret_int HD.out.symm, ((Below.refl _ _).alloc (Nat.le_refl _) _).alloc (by simp) _⟩
  · have ht : (s != t) = true := by simpa using hst
    have HD := Lib.hid (show dst p q s t x = max p q - min p q + x by simp only [dst, btw, if_neg hst]; omega)
    clear hst
    go_enter Try.func55, Try.ntmps55
    go_wp2
    go_ret
    exact ⟨ret_int HD.out.symm, ((Below.refl _ _).alloc (Nat.le_refl _) _).alloc (by simp) _⟩

set_option maxRecDepth 100000 in
set_option maxHeartbeats 4000000 in
theorem impWalk_low (rs : List (List Int)) (B : Option Addr) (d : Nat) (zs : List Int) (x : Int) (w : World) (A : Option Addr) (c : Nat) (hr : Grid w 0 w.heap.size A rs) (hs : ∀ r ∈ rs, r.length ≤ 1000000000) (hz : Ints w w.heap.size B zs) (hd : zs.length ≤ d) (hv : walkB rs zs x = true) :
    Calls Try.prog 18 #[.slice A rs.length c, .slice B zs.length d, .int .i64 x] w fun e w' => e = .returned (.int .i64 (walkTot rs x zs)) ∧ Below w.heap.size w w' := by
  have H := Lib.hid (housesOf_all A c rs w hr hs)
  have hcc := fun X => canCross_any x X
  simp only [walkB, Bool.and_eq_true, decide_eq_true_eq] at hv
  obtain ⟨⟨hv1, hv2⟩, hv3, hv4⟩ := hv
  rw [hv2] at hcc
  rw [inR_iff] at hv2
  obtain ⟨hx0, hx1⟩ := hv2
  have HC := Lib.hid hcc
  have HV := Lib.hid hv1
  have HR := Lib.hid hv4
  have HL := Lib.hid hv3
  have hl6 := house_len hv1
  have hz6 : zs.length ≤ 6 := by omega
  have hne : ((zs.length : Int) != (rs.length : Int)) = false := by simp; omega
  clear hv1 hv4 hv3 hs hcc
  go_enter Try.func18, Try.ntmps18
  go_wp2_with fail
  refine H.out.mono ?_
  rintro e w1 ⟨h1, _⟩
  obtain ⟨A1, c1, rfl, _, ho, hb⟩ := h1 HV.out
  have hb1 := hb.size
  have hz1 := hz.past hb
  have hvr := impValidRow_any B d zs w1 hz1 hd
  rw [HR.out] at hvr
  have HVR := Lib.hid hvr
  have HB1 := Lib.hid hb
  have HO := Lib.hid ho
  clear h1 hb ho hvr
  go_wp2_with (first | (go_at_call 48; ((with_reducible refine (HC.out _).mono ?_); rintro e w' ⟨rfl, rfl⟩)) | (go_at_call 54; ((with_reducible refine HVR.out.mono ?_); rintro e w' ⟨rfl, rfl⟩)))
  clear hne
  go_loopw [10, 39] (fun a i wr => ∃ (k : Nat) (y p s : Int), k ≤ zs.length ∧ i = .int .i64 k ∧ a = .int .i64 y ∧ 0 ≤ y ∧ y ≤ 40 * k ∧ wlk rs x (zs.take k) = (y, (p, s)) ∧ 0 ≤ p ∧ p ≤ 20 ∧ wr.heap[w1.heap.size]? = some (.cells #[.int .i64 p, .int .i64 s] 66 (0, 0)) ∧ Below w1.heap.size w1 wr) (fun _ i _ => zs.length - (intOf i).toNat)
  case atStart => exact ⟨0, 0, 0, 0, by omega, rfl, rfl, by omega, by omega, rfl, by omega, by omega, heap_alloc_new w1 _, (Below.refl _ _).alloc (Nat.le_refl _) _⟩
  case round =>
    obtain ⟨k, y, p, s, hk, rfl, rfl, hy0, hy1, hw, hp0, hp1, hblk, hbr⟩ := hrel
    have HW := Lib.hid hw
    have HBR := Lib.hid hbr
    have HBK := Lib.hid hblk
    have hbz := hbr.size
    have hwz := lt_of_heap hblk
    have n0 : wr.cell? ⟨w1.heap.size, 0, none⟩ = some (.int .i64 p) := by rw [cell_of_row wr _ 0 _ _ _ hblk]; rfl
    have n1 : wr.cell? ⟨w1.heap.size, 1, none⟩ = some (.int .i64 s) := by rw [cell_of_row wr _ 1 _ _ _ hblk]; rfl
    have f0 := frozen_of_row wr w1.heap.size 0 _ _ hblk
    have f1 := frozen_of_row wr w1.heap.size 1 _ _ hblk
    clear hw hblk
    by_cases hlt : k < zs.length
    · obtain ⟨bz, oz, rfl, hbz2, hcz⟩ := (hz1.below hbr).open (by simp; omega)
      have hzc := ints_at hcz hlt
      obtain ⟨j, hj, hjl⟩ := row_in HR.out hlt
      have hjr : j < rs.length := by have := HL.out; omega
      have HTK := Lib.hid (wlk_take (x := x) hlt HW.out)
      obtain ⟨q, t, b, o, he, ⟨hq0, hq1, ht0, ht1⟩, rfl, g0, g1, hbl⟩ := (HO.out.below hbr).house HV.out hjr
      have HAT := Lib.hid (hAt_of hj hjr he)
      rw [hj] at hzc
      have hjI : (j : Int) < rs.length := by omega
      have hj0 : (0 : Int) ≤ (j : Int) := by omega
      have hkI : (k : Int) < zs.length := by omega
      have hbt := fun X => wayBetween_any p s q t x X ⟨hp0, hp1⟩ ⟨hq0, hq1⟩ ⟨hx0, hx1⟩
      have hd := btw_bd (a := (p, s)) (b := (q, t)) (x := x) ⟨hp0, hp1⟩ ⟨hq0, hq1⟩ ⟨hx0, hx1⟩
      obtain ⟨D, hD⟩ : ∃ D, dst p q s t x = D := ⟨_, rfl⟩
      have hdd : 0 ≤ D ∧ D ≤ 40 := by rw [← hD]; exact hd
      obtain ⟨hD0, hD1⟩ := hdd
      have hbt2 : ∀ X, Calls Try.prog 55 #[.agg #[.int .i64 p, .int .i64 s], .agg #[.int .i64 q, .int .i64 t], .int .i64 x] X fun e w' => e = .returned (.int .i64 D) ∧ Below X.heap.size X w' := fun X => by rw [← hD]; exact hbt X
      have HBT := Lib.hid hbt2
      have HD := Lib.hid hD
      have HG := Lib.hid (And.intro (And.intro n0 n1) (And.intro g0 g1))
      have hbw : b < wr.heap.size := by omega
      have q4 : Below wr.heap.size wr wr.drew := ⟨rfl, rfl, rfl, Nat.le_refl _, fun _ _ => rfl⟩
      have esum : IntKind.i64.wrap (y + D) = y + D := IntWalk.i64_in _ (by omega)
      clear hcz hj he hbt hbt2 hd hD hbr n0 n1 g0 g1
      go_wp2
      go_region_held3 (fun w' => (w'.cell? ⟨w1.heap.size, 0, none⟩ = some (.int .i64 p) ∧ w'.cell? ⟨w1.heap.size, 1, none⟩ = some (.int .i64 s)) ∧ (w'.cell? ⟨b, o + j * 2, none⟩ = some (.int .i64 q) ∧ w'.cell? ⟨b, o + j * 2 + 1, none⟩ = some (.int .i64 t)))
        (first | exact ⟨⟨cell_kept q5 hwz HG.out.1.1, cell_kept q5 hwz HG.out.1.2⟩, ⟨cell_kept q5 hbw HG.out.2.1, cell_kept q5 hbw HG.out.2.2⟩⟩ | exact ⟨⟨cell_kept q4 hwz HG.out.1.1, cell_kept q4 hwz HG.out.1.2⟩, ⟨cell_kept q4 hbw HG.out.2.1, cell_kept q4 hbw HG.out.2.2⟩⟩)
        ((first
          | (go_at_call 55; refine (HBT.out _).mono ?_; rintro e w5 ⟨rfl, b5⟩; have q5 : Below wr.heap.size wr w5 := q4.trans b5)
          | fail))
      have HQ := Lib.hid q5
      have hblk5 := (q5.block w1.heap.size hwz).trans HBK.out
      have HBK5 := Lib.hid hblk5
      have n0 : w5.cell? ⟨w1.heap.size, 0, none⟩ = some (.int .i64 p) := by rw [cell_of_row w5 _ 0 _ _ _ hblk5]; rfl
      have n1 : w5.cell? ⟨w1.heap.size, 1, none⟩ = some (.int .i64 s) := by rw [cell_of_row w5 _ 1 _ _ _ hblk5]; rfl
      have k0 := frozen_of_row w5 w1.heap.size 0 _ _ hblk5
      have k1 := frozen_of_row w5 w1.heap.size 1 _ _ hblk5
      have g0 := cell_kept q5 hbw HG.out.2.1
      have g1 := cell_kept q5 hbw HG.out.2.2
      clear q4 q5 b5 esum hblk5
      go_simp
      go_wp2
      go_roundw
      case rel =>
        refine ⟨k + 1, y + D, q, t, by omega, by go_num, rfl, by omega, by push_cast; omega, by rw [HTK.out, HAT.out, ← HD.out]; rfl, hq0, hq1, ?_, ((HBR.out.trans (HQ.out.mono hbz)).setCell (p := ⟨w1.heap.size, 0, none⟩) (Nat.le_refl _) _).setCell (p := ⟨w1.heap.size, 1, none⟩) (Nat.le_refl _) _⟩
        have h1 := heap_setCell_same w5 w1.heap.size 0 _ _ (.int .i64 q) HBK5.out
        have h2 := heap_setCell_same _ w1.heap.size 1 _ _ (.int .i64 t) h1
        rw [h2]
        rfl
      case measure => simp [intOf]; omega
    · have hk' : k = zs.length := by omega
      subst hk'
      have hbt := fun X => wayBetween_any p s 0 0 x X ⟨hp0, hp1⟩ ⟨by omega, by omega⟩ ⟨hx0, hx1⟩
      have hd := btw_bd (a := (p, s)) (b := (0, 0)) (x := x) ⟨hp0, hp1⟩ ⟨by simp, by simp⟩ ⟨hx0, hx1⟩
      obtain ⟨D, hD⟩ : ∃ D, dst p 0 s 0 x = D := ⟨_, rfl⟩
      have hdd : 0 ≤ D ∧ D ≤ 40 := by rw [← hD]; exact hd
      obtain ⟨hD0, hD1⟩ := hdd
      have hbt2 : ∀ X, Calls Try.prog 55 #[.agg #[.int .i64 p, .int .i64 s], .agg #[.int .i64 0, .int .i64 0], .int .i64 x] X fun e w' => e = .returned (.int .i64 D) ∧ Below X.heap.size X w' := fun X => by rw [← hD]; exact hbt X
      have HBT := Lib.hid hbt2
      have HF := Lib.hid (show walkTot rs x zs = y + D by
        have h1 := HW.out
        rw [List.take_length] at h1
        rw [walkTot, h1, ← hD]; rfl)
      have HBF := Lib.hid (HB1.out.trans (hbr.mono hb1))
      clear hbt hbt2 hd hD hbr
      go_wp2_with (go_at_call 55; ((with_reducible refine (HBT.out _).mono ?_); rintro e w5 ⟨rfl, b5⟩))
      go_ret
      exact ⟨ret_int HF.out.symm, HBF.out.trans (b5.mono HBF.out.size)⟩

set_option maxRecDepth 100000 in
set_option maxHeartbeats 2000000 in
theorem impWalk_any (A : Option Addr) (c : Nat) (rs : List (List Int)) (B : Option Addr) (d : Nat) (zs : List Int) (x : Int) (w : World) (hr : Grid w 0 w.heap.size A rs) (hs : ∀ r ∈ rs, r.length ≤ 1000000000) (hz : Ints w w.heap.size B zs) (hd : zs.length ≤ d) :
    Calls Try.prog 18 #[.slice A rs.length c, .slice B zs.length d, .int .i64 x] w fun e w' => e = .returned (.int .i64 (walkV rs zs x)) ∧ Below w.heap.size w w' := by
  by_cases hW : walkB rs zs x = true
  · rw [walkV_yes hW]
    exact impWalk_low rs B d zs x w A c hr hs hz hd hW
  · have hW' : walkB rs zs x = false := by simpa using hW
    rw [walkV_no hW']
    have H := Lib.hid (housesOf_all A c rs w hr hs)
    have hcc := fun X => canCross_any x X
    clear hW hs
    by_cases hB : housesB rs = true
    · have HB := Lib.hid hB
      by_cases hC : inR x 0 20 = true
      · rw [hC] at hcc
        have HC := Lib.hid hcc
        clear hcc
        have hvr := fun W h => impValidRow_any B d zs W h hd
        by_cases hL : zs.length = rs.length
        · have hne : ((zs.length : Int) != (rs.length : Int)) = false := by simp; omega
          have hR : rowB 9 zs = false := by
            simp only [walkB, hB, hC, hL, decide_true, Bool.true_and] at hW'
            exact hW'
          rw [hR] at hvr
          have HVR := Lib.hid hvr
          have hl6 := house_len hB
          clear hB hC hW' hL hR hvr
          go_enter Try.func18, Try.ntmps18
          go_wp2_with fail
          refine H.out.mono ?_
          rintro e w1 ⟨h1, _⟩
          obtain ⟨A1, c1, rfl, _, _, hb⟩ := h1 HB.out
          have hz1 := hz.past hb
          have HB1 := Lib.hid hb
          have HV1 := Lib.hid (HVR.out w1 hz1)
          clear h1 hb hz1
          go_wp2_with (first | (go_at_call 48; ((with_reducible refine (HC.out _).mono ?_); rintro e w' ⟨rfl, rfl⟩)) | (go_at_call 54; ((with_reducible refine HV1.out.mono ?_); rintro e w' ⟨rfl, rfl⟩)))
          go_ret
          exact ⟨rfl, HB1.out⟩
        · have hne : ((zs.length : Int) != (rs.length : Int)) = true := by simp; omega
          have hl6 := house_len hB
          clear hB hC hW' hL hvr
          go_enter Try.func18, Try.ntmps18
          go_wp2_with fail
          refine H.out.mono ?_
          rintro e w1 ⟨h1, _⟩
          obtain ⟨A1, c1, rfl, _, _, hb⟩ := h1 HB.out
          have HB1 := Lib.hid hb
          clear h1 hb
          go_wp2_with (first | (go_at_call 48; ((with_reducible refine (HC.out _).mono ?_); rintro e w' ⟨rfl, rfl⟩)))
          go_ret
          exact ⟨rfl, HB1.out⟩
      · have hC' : inR x 0 20 = false := by simpa using hC
        rw [hC'] at hcc
        have HC := Lib.hid hcc
        clear hcc hB hC hC' hW'
        go_enter Try.func18, Try.ntmps18
        go_wp2_with fail
        refine H.out.mono ?_
        rintro e w1 ⟨h1, _⟩
        obtain ⟨A1, c1, rfl, _, _, hb⟩ := h1 HB.out
        have HB1 := Lib.hid hb
        clear h1 hb
        go_wp2_with (first | (go_at_call 48; ((with_reducible refine (HC.out _).mono ?_); rintro e w' ⟨rfl, rfl⟩)))
        go_ret
        exact ⟨rfl, HB1.out⟩
    · have hB' : housesB rs = false := by simpa using hB
      have HB := Lib.hid hB'
      clear hcc hB hB' hW'
      go_enter Try.func18, Try.ntmps18
      go_wp2_with fail
      refine H.out.mono ?_
      rintro e w1 ⟨_, h2⟩
      obtain ⟨rfl, hb⟩ := h2 HB.out
      have HB1 := Lib.hid hb
      clear h2 hb
      go_wp2
      go_ret
      exact ⟨rfl, HB1.out⟩
end Go.Proofs.Ytlgeoilnjgojnaa
