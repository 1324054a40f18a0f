/- WalkOf: spec. No condition. -/
import Derived.Test.YtaaekpbiaghjfaaH4
import Derived.Test.YtaaekpbiaghjfaaS1
namespace Go.Proofs.Ytaaekpbiaghjfaa
open Go.RowKit

/-- The way between two places. -/
def btw (a b : Int × Int) (x : Int) : Int := max (a.1 - b.1) (b.1 - a.1) + (if a.2 = b.2 then 0 else x)
theorem btw_bd {a b : Int × Int} {x : Int} (h1 : 0 ≤ a.1 ∧ a.1 ≤ 20) (h2 : 0 ≤ b.1 ∧ b.1 ≤ 20) (hx : 0 ≤ x ∧ x ≤ 20) : 0 ≤ btw a b x ∧ btw a b x ≤ 40 := by
  unfold btw; split <;> omega

def dst (p q s t x : Int) : Int := btw (p, s) (q, t) x

set_option maxRecDepth 100000 in
set_option maxHeartbeats 1000000 in
theorem between_any (b1 o1 c1 b2 o2 c2 : Nat) (p s q t x : Int) (w : World) (h1 : w.cell? ⟨b1, o1, none⟩ = some (.int .i64 p)) (h2 : w.cell? ⟨b1, o1 + 1, none⟩ = some (.int .i64 s)) (h3 : w.cell? ⟨b2, o2, none⟩ = some (.int .i64 q)) (h4 : w.cell? ⟨b2, o2 + 1, none⟩ = some (.int .i64 t))
    (hp : 0 ≤ p ∧ p ≤ 20) (hq : 0 ≤ q ∧ q ≤ 20) (hx : 0 ≤ x ∧ x ≤ 20) :
    Calls Try.prog 55 #[.slice (some ⟨b1, o1, none⟩) 2 c1, .slice (some ⟨b2, o2, none⟩) 2 c2, .int .i64 x] w fun e w' => e = .returned (.int .i64 (dst p q s t x)) ∧ ∃ n, w' = w.drewN n := by
  obtain ⟨hp0, hp1⟩ := hp
  obtain ⟨hq0, hq1⟩ := hq
  obtain ⟨hx0, hx1⟩ := hx
  have e1 : IntKind.i64.wrap (p - q) = p - q := IntWalk.i64_in _ (by omega)
  have e2 : IntKind.i64.wrap (q - p) = q - p := IntWalk.i64_in _ (by omega)
  obtain ⟨m, hm⟩ : ∃ m, (if p - q < q - p then q - p else p - q) = m := ⟨_, rfl⟩
  have hmb : 0 ≤ m ∧ m ≤ 20 := by rw [← hm]; split <;> omega
  obtain ⟨hm0, hm1⟩ := hmb
  have HM := Lib.hid (show max (p - q) (q - p) = m from (max_if _ _).trans hm)
  by_cases hst : s = t
  · have ht : (s != t) = false := by simp [hst]
    have HD := Lib.hid (show dst p q s t x = m by simp only [dst, btw, if_pos hst, HM.out]; omega)
    clear hst
    go_enter Try.func55, Try.ntmps55
    go_wp2
    go_quiet (fail)
    clear e1 e2 hm
    go_simp
    go_wp2
    go_quiet (fail)
    go_simp
    go_wp2
    go_ret
    exact ⟨ret_int HD.out.symm, _, rfl⟩
  · have ht : (s != t) = true := by simpa using hst
    have HD := Lib.hid (show dst p q s t x = m + x by simp only [dst, btw, if_neg hst, HM.out])
    clear hst
    go_enter Try.func55, Try.ntmps55
    go_wp2
    go_quiet (fail)
    clear e1 e2 hm
    go_simp
    go_wp2
    go_quiet (fail)
    go_simp
    go_wp2
    go_ret
    exact ⟨ret_int HD.out.symm, _, rfl⟩

/-- The house of a number. -/
def hAt (rs : List (List Int)) (z : Int) : Int × Int := hp (rs.getD z.toNat [])
/-- How far one has walked, and where one is. -/
def wlk (rs : List (List Int)) (x : Int) (zs : List Int) : Int × (Int × Int) := zs.foldl (fun a z => (a.1 + btw a.2 (hAt rs z) x, hAt rs z)) (0, (0, 0))
def walkTot (rs : List (List Int)) (x : Int) (zs : List Int) : Int := (wlk rs x zs).1 + btw (wlk rs x zs).2 (0, 0) x
def walkB (rs : List (List Int)) (zs : List Int) (x : Int) : Bool := (housesB rs && inR x 0 20) && (decide (zs.length = rs.length) && rowB 9 zs)
def walkV (rs : List (List Int)) (zs : List Int) (x : Int) : Int := if walkB rs zs x = true then walkTot rs x zs else -1
theorem walkV_yes {rs : List (List Int)} {zs : List Int} {x : Int} (h : walkB rs zs x = true) : walkV rs zs x = walkTot rs x zs := by rw [walkV, if_pos h]
theorem walkV_no {rs : List (List Int)} {zs : List Int} {x : Int} (h : walkB rs zs x = false) : walkV rs zs x = -1 := by rw [walkV, if_neg (by rw [h]; simp)]
theorem wlk_take {rs : List (List Int)} {x : Int} {zs : List Int} {k : Nat} (hk : k < zs.length) {a : Int} {h : Int × Int} (he : wlk rs x (zs.take k) = (a, h)) : wlk rs x (zs.take (k + 1)) = (a + btw h (hAt rs zs[k]) x, hAt rs zs[k]) := by
  rw [List.take_succ_eq_append_getElem hk]
  unfold wlk at he ⊢
  rw [List.foldl_append, he]; rfl
theorem row_in {m : Nat} {zs : List Int} (h : rowB m zs = true) {k : Nat} (hk : k < zs.length) : ∃ j : Nat, zs[k] = (j : Int) ∧ j < zs.length := by
  have h2 : (List.range zs.length).all (okAt zs) = true := by simp only [rowB, Bool.and_eq_true] at h; exact h.2
  have h3 := (okAt_in hk (all_range h2 hk)).1
  exact ⟨zs[k].toNat, by omega, by omega⟩
theorem hAt_of {rs : List (List Int)} {z : Int} {j : Nat} {p s : Int} (hz : z = (j : Int)) (hj : j < rs.length) (h : rs[j] = [p, s]) : hAt rs z = (p, s) := by
  subst hz
  simp [hAt, hp, List.getD, List.getElem?_eq_getElem hj, h]

/-- Where one is, in memory. -/
def NowAt (w : World) (v : Value) (p s : Int) : Prop := ∃ b o c, v = .slice (some ⟨b, o, none⟩) 2 c ∧ w.cell? ⟨b, o, none⟩ = some (.int .i64 p) ∧ w.cell? ⟨b, o + 1, none⟩ = some (.int .i64 s) ∧ b < w.heap.size
theorem NowAt.keep {w w' : World} {v : Value} {p s : Int} (h : NowAt w v p s) (hb : Below w.heap.size w w') : NowAt w' v p s := by
  obtain ⟨b, o, c, rfl, h1, h2, h3⟩ := h
  exact ⟨b, o, c, rfl, (hb.cell (p := ⟨b, o, none⟩) h3).trans h1, (hb.cell (p := ⟨b, o + 1, none⟩) h3).trans h2, Nat.lt_of_lt_of_le h3 hb.size⟩

set_option maxRecDepth 100000 in
set_option maxHeartbeats 2000000 in
theorem walk_any (A : Option Addr) (c : Nat) (rs : List (List Int)) (B : Option Addr) (d : Nat) (zs : List Int) (x : Int) (w : World) (hr : Grid w 0 w.heap.size A rs) (hz : Ints w w.heap.size B zs) (hv : walkB rs zs x = true) :
    Calls Try.prog 51 #[.slice A rs.length c, .slice B zs.length d, .int .i64 x] w fun e w' => e = .returned (.int .i64 (walkTot rs x zs)) ∧ Below w.heap.size w w' := by
  simp only [walkB, Bool.and_eq_true, decide_eq_true_eq] at hv
  obtain ⟨⟨hv1, hv2⟩, hv3, hv4⟩ := hv
  rw [inR_iff] at hv2
  obtain ⟨hx0, hx1⟩ := hv2
  have HV := Lib.hid hv1
  have HR := Lib.hid hv4
  have HL := Lib.hid hv3
  have hl6 := house_len hv1
  have hz6 : zs.length ≤ 6 := by omega
  have hst : NowAt (w.alloc (.cells #[.int .i64 0, .int .i64 0] 3)) (.slice (some ⟨w.heap.size, 0, none⟩) 2 2) 0 0 := by
    refine ⟨_, _, _, rfl, ?_, ?_, by simp⟩
    · rw [World.cell?_alloc_at _ _ _ _ rfl]; rfl
    · rw [World.cell?_alloc_at _ _ _ _ rfl]; rfl
  have HST := Lib.hid hst
  clear hv1 hv4 hv3 hst
  go_enter Try.func51, Try.ntmps51
  go_wp2
  go_loopw [7, 8, 9] (fun v a i wr => ∃ (k : Nat) (y p s : Int), k ≤ zs.length ∧ i = .int .i64 k ∧ a = .int .i64 y ∧ 0 ≤ y ∧ y ≤ 40 * k ∧ wlk rs x (zs.take k) = (y, (p, s)) ∧ 0 ≤ p ∧ p ≤ 20 ∧ NowAt wr v p s ∧ Below w.heap.size w wr) (fun _ _ i _ => zs.length - (intOf i).toNat)
  case atStart => exact ⟨0, 0, 0, 0, by omega, rfl, rfl, by omega, by omega, rfl, by omega, by omega, HST.out, (Below.refl _ _).alloc (Nat.le_refl _) _⟩
  case round =>
    obtain ⟨k, y, p, s, hk, rfl, rfl, hy0, hy1, hw, hp0, hp1, ⟨bn, on, cn, rfl, hn1, hn2, hn3⟩, hbr⟩ := hrel
    clear HST
    have HW := Lib.hid hw
    have HBR := Lib.hid hbr
    have hbz := hbr.size
    clear hw
    by_cases hlt : k < zs.length
    · obtain ⟨bz, oz, rfl, hbz2, hcz⟩ := (hz.below hbr).open (by simp; omega)
      have hzc := ints_at hcz hlt
      obtain ⟨j, hj, hjl⟩ := row_in HR.out hlt
      have hjr : j < rs.length := by have := HL.out; omega
      have HTK := Lib.hid (wlk_take (x := x) hlt HW.out)
      obtain ⟨q, t, b, o, b', o', c1, he, ⟨hq0, hq1, ht0, ht1⟩, rfl, g, g0, g1, hb, hb'⟩ := (hr.below hbr).house HV.out hjr
      have HAT := Lib.hid (hAt_of hj hjr he)
      rw [hj] at hzc
      have HJ := Lib.hid hj
      have hjI : (j : Int) < rs.length := by omega
      have hj0 : (0 : Int) ≤ (j : Int) := by omega
      have hbt := between_any bn on cn b' o' c1 p s q t x wr hn1 hn2 g0 g1 ⟨hp0, hp1⟩ ⟨hq0, hq1⟩ ⟨hx0, hx1⟩
      have hd := btw_bd (a := (p, s)) (b := (q, t)) (x := x) ⟨hp0, hp1⟩ ⟨hq0, hq1⟩ ⟨hx0, hx1⟩
      obtain ⟨D, hD⟩ : ∃ D, dst p q s t x = D := ⟨_, rfl⟩
      rw [hD] at hbt
      have hdd : 0 ≤ D ∧ D ≤ 40 := by rw [← hD]; exact hd
      obtain ⟨hD0, hD1⟩ := hdd
      have HBT := Lib.hid hbt
      have HD := Lib.hid hD
      have HG := Lib.hid (And.intro g0 g1)
      clear hcz hj he hbt hd hD hbr
      go_wp2_with fail
      refine HBT.out.mono ?_
      rintro e w2 ⟨rfl, n, hw2⟩
      have b2 : Below wr.heap.size wr w2 := by rw [hw2]; exact below_drewN (Below.refl _ _) n
      have g' := (b2.cell (p := ⟨b, o + j, none⟩) (show b < wr.heap.size by omega)).trans g
      have hzc' := (b2.cell (p := ⟨bz, oz + k, none⟩) (show bz < wr.heap.size by omega)).trans hzc
      have HN := Lib.hid (show NowAt w2 (.slice (some ⟨b', o', none⟩) 2 c1) q t from ⟨b', o', c1, rfl, (b2.cell (p := ⟨b', o', none⟩) (show b' < wr.heap.size by omega)).trans HG.out.1, (b2.cell (p := ⟨b', o' + 1, none⟩) (show b' < wr.heap.size by omega)).trans HG.out.2, Nat.lt_of_lt_of_le (show b' < wr.heap.size by omega) b2.size⟩)
      have HB2 := Lib.hid (HBR.out.trans (b2.mono hbz))
      clear b2 hw2 hn1 hn2 g0 g1 g hzc
      go_wp2
      go_roundw
      case rel => exact ⟨k + 1, y + D, q, t, by omega, by go_num, rfl, by omega, by push_cast; omega, by rw [HTK.out, HAT.out, ← HD.out]; rfl, hq0, hq1, HN.out, HB2.out⟩
      case measure => simp [intOf]; omega
    · have hk' : k = zs.length := by omega
      subst hk'
      have hbt := between_any bn on cn wr.heap.size 0 2 p s 0 0 x (wr.alloc (.cells #[.int .i64 0, .int .i64 0] 3))
        (((Below.refl _ _).alloc (Nat.le_refl _) (.cells #[.int .i64 0, .int .i64 0] 3)).cell (p := ⟨bn, on, none⟩) hn3 |>.trans hn1) (((Below.refl _ _).alloc (Nat.le_refl _) (.cells #[.int .i64 0, .int .i64 0] 3)).cell (p := ⟨bn, on + 1, none⟩) hn3 |>.trans hn2)
        (by rw [World.cell?_alloc_at _ _ _ _ rfl]; rfl) (by rw [World.cell?_alloc_at _ _ _ _ rfl]; rfl) ⟨hp0, hp1⟩ ⟨by omega, by omega⟩ ⟨hx0, hx1⟩
      have hd := btw_bd (a := (p, s)) (b := (0, 0)) (x := x) ⟨hp0, hp1⟩ ⟨by simp, by simp⟩ ⟨hx0, hx1⟩
      obtain ⟨D, hD⟩ : ∃ D, dst p 0 s 0 x = D := ⟨_, rfl⟩
      rw [hD] at hbt
      have hdd : 0 ≤ D ∧ D ≤ 40 := by rw [← hD]; exact hd
      obtain ⟨hD0, hD1⟩ := hdd
      have HBT := Lib.hid hbt
      have HF := Lib.hid (show walkTot rs x zs = y + D by
        have h1 := HW.out
        rw [List.take_length] at h1
        rw [walkTot, h1, ← hD]; rfl)
      clear hbt hd hD hbr
      go_wp2_with fail
      refine HBT.out.mono ?_
      rintro e w2 ⟨rfl, n, hw2⟩
      have b2 : Below wr.heap.size wr w2 := by rw [hw2]; exact below_drewN ((Below.refl _ _).alloc (Nat.le_refl _) _) n
      have HB2 := Lib.hid (HBR.out.trans (b2.mono hbz))
      clear b2 hw2 hn1 hn2
      go_wp2
      go_ret
      exact ⟨ret_int HF.out.symm, HB2.out⟩

theorem rowB_six {zs : List Int} (h : zs.length ≤ 6) : rowB 6 zs = rowB 9 zs := by
  simp only [rowB, decide_eq_true h, decide_eq_true (show zs.length ≤ 9 by omega)]

set_option maxRecDepth 100000 in
set_option maxHeartbeats 1000000 in
theorem specWalk_any (A : Option Addr) (c : Nat) (rs : List (List Int)) (B : Option Addr) (d : Nat) (zs : List Int) (x : Int) (w : World) (hr : Grid w 0 w.heap.size A rs) (hz : Ints w w.heap.size B zs) (hl : rs.length ≤ 1000000000) (hs : ∀ r ∈ rs, r.length ≤ 1000000000) (hzl : zs.length ≤ 9000000000000000000) :
    Calls Try.prog 19 #[.slice A rs.length c, .slice B zs.length d, .int .i64 x] w fun e w' => e = .returned (.int .i64 (walkV rs zs x)) ∧ Below w.heap.size w w' := by
  have h := validStreet_any A c rs x w hr hl hs
  clear hs
  by_cases hB : (housesB rs && inR x 0 20) = true
  · rw [hB] at h
    have H := Lib.hid h
    clear h
    by_cases hL : zs.length = rs.length
    · have hl6 := house_len (by simp only [Bool.and_eq_true] at hB; exact hB.1)
      have h6 : Calls Try.prog 50 #[.slice B zs.length d, .int .i64 6] w fun e w' => e = .returned (.bool (rowB 6 zs)) ∧ w = w' := specValidRow_any B d zs 6 w hz (by omega) hzl
      rw [rowB_six (by omega)] at h6
      have hne : ((zs.length : Int) != (rs.length : Int)) = false := by simp; omega
      by_cases hR : rowB 9 zs = true
      · rw [hR] at h6
        have H6 := Lib.hid h6
        have hW : walkB rs zs x = true := by simp only [walkB, hB, hR, hL, decide_true, Bool.and_self]
        have HWY := Lib.hid (walkV_yes hW)
        have HWK := Lib.hid (walk_any A c rs B d zs x w hr hz hW)
        clear h6 hB hR hW hL
        go_enter Try.func19, Try.ntmps19
        go_wp2_with (first | (go_at_call 49; ((with_reducible refine H.out.mono ?_); rintro e w' ⟨rfl, rfl⟩)) | (go_at_call 50; ((with_reducible refine H6.out.mono ?_); rintro e w' ⟨rfl, rfl⟩)) | (go_at_call 51; ((with_reducible refine HWK.out.mono ?_); rintro e w2 ⟨rfl, hb⟩)))
        go_ret
        exact ⟨ret_int HWY.out.symm, hb⟩
      · have hR' : rowB 9 zs = false := by simpa using hR
        rw [hR'] at h6
        have H6 := Lib.hid h6
        have HWN := Lib.hid (walkV_no (show walkB rs zs x = false by simp only [walkB, hR', Bool.and_false]))
        clear h6 hB hR hR' hL
        go_enter Try.func19, Try.ntmps19
        go_wp2_with (first | (go_at_call 49; ((with_reducible refine H.out.mono ?_); rintro e w' ⟨rfl, rfl⟩)) | (go_at_call 50; ((with_reducible refine H6.out.mono ?_); rintro e w' ⟨rfl, rfl⟩)))
        go_ret
        exact ⟨ret_int HWN.out.symm, Below.refl _ _⟩
    · have hne : ((zs.length : Int) != (rs.length : Int)) = true := by simp; omega
      have HWN := Lib.hid (walkV_no (show walkB rs zs x = false by simp only [walkB, decide_eq_false hL, Bool.false_and, Bool.and_false]))
      clear hB hL
      go_enter Try.func19, Try.ntmps19
      go_wp2_with (first | (go_at_call 49; ((with_reducible refine H.out.mono ?_); rintro e w' ⟨rfl, rfl⟩)))
      go_ret
      exact ⟨ret_int HWN.out.symm, Below.refl _ _⟩
  · have hB' : (housesB rs && inR x 0 20) = false := by simpa using hB
    rw [hB'] at h
    have H := Lib.hid h
    have HWN := Lib.hid (walkV_no (show walkB rs zs x = false by simp only [walkB, hB', Bool.false_and]))
    clear h hB hB'
    go_enter Try.func19, Try.ntmps19
    go_wp2_with (first | (go_at_call 49; ((with_reducible refine H.out.mono ?_); rintro e w' ⟨rfl, rfl⟩)))
    go_ret
    exact ⟨ret_int HWN.out.symm, Below.refl _ _⟩
end Go.Proofs.Ytaaekpbiaghjfaa
