/- Codes are read: contracts of impl.splitCode. No condition. -/
import Derived.Test.YtempfagjbpnlcaaC3
import Derived.Test.YtempfagjbpnlcaaShelf
import Derived.Lib.OthersKept
import Derived.Lib.Strings
import Derived.WalkSmall
namespace Go.Proofs.Ytempfagjbpnlcaa
open Go.RowKit

def signs : List UInt8 := [48, 49, 50, 51, 52, 53, 54, 55, 56, 57, 120]

theorem sign_find_nat : ∀ n : Fin 256, (Lib.indexByte signs (UInt8.ofNat n.1) = -1 ∧ ∀ c : Fin 11, sg (c.1 : Int) ≠ UInt8.ofNat n.1) ∨ ∃ c : Fin 11, Lib.indexByte signs (UInt8.ofNat n.1) = (c.1 : Int) ∧ sg (c.1 : Int) = UInt8.ofNat n.1 := by decide +kernel

theorem sign_find (x : UInt8) : (Lib.indexByte signs x = -1 ∧ ∀ c : Int, 0 ≤ c → c ≤ 10 → sg c ≠ x) ∨ ∃ c : Int, 0 ≤ c ∧ c ≤ 10 ∧ Lib.indexByte signs x = c ∧ sg c = x := by
  have hx := sign_find_nat ⟨x.toNat, x.toNat_lt⟩
  simp only [UInt8.ofNat_toNat] at hx
  rcases hx with ⟨h1, h2⟩ | ⟨c, h1, h2⟩
  · refine .inl ⟨h1, fun c h0 h10 => ?_⟩
    have := h2 ⟨c.toNat, by omega⟩
    rwa [Int.toNat_of_nonneg h0] at this
  · exact .inr ⟨c.1, by omega, by omega, h1, h2⟩

/-- What splitCode says when it says no. -/
def splitNo : Value := .tuple #[.agg #[.int .i64 0, .int .i64 0, .int .i64 0, .int .i64 0], .int .i64 0, .bool false]

theorem six_of (s : ByteArray) (h : s.size = 6) : ∃ b0 b1 b2 b3 b4 b5, s = ⟨#[b0, b1, b2, b3, b4, b5]⟩ := by
  obtain ⟨⟨l⟩⟩ := s
  match l, h with
  | [b0, b1, b2, b3, b4, b5], _ => exact ⟨b0, b1, b2, b3, b4, b5, rfl⟩

theorem four_facts {w : World} {k : Nat} {a b c d : Value} {T : TypeId} (h : w.heap[k]? = some (.cells #[a, b, c, d] T (0, 0))) :
    w.cell? ⟨k, 0, none⟩ = some a ∧ w.cell? ⟨k, 1, none⟩ = some b ∧ w.cell? ⟨k, 2, none⟩ = some c ∧ w.cell? ⟨k, 3, none⟩ = some d ∧
    w.frozen? ⟨k, 0, none⟩ = false ∧ w.frozen? ⟨k, 1, none⟩ = false ∧ w.frozen? ⟨k, 2, none⟩ = false ∧ w.frozen? ⟨k, 3, none⟩ = false :=
  ⟨cell_of_row w k 0 _ _ _ h, cell_of_row w k 1 _ _ _ h, cell_of_row w k 2 _ _ _ h, cell_of_row w k 3 _ _ _ h, frozen_of_row w k 0 _ _ h, frozen_of_row w k 1 _ _ h, frozen_of_row w k 2 _ _ h, frozen_of_row w k 3 _ _ h⟩

theorem four_set {w : World} {k : Nat} {a b c d : Value} {T : TypeId} (h : w.heap[k]? = some (.cells #[a, b, c, d] T (0, 0))) (p q r s : Value) :
    ((((w.setCell ⟨k, 0, none⟩ p).setCell ⟨k, 1, none⟩ q).setCell ⟨k, 2, none⟩ r).setCell ⟨k, 3, none⟩ s).heap[k]? = some (.cells #[p, q, r, s] T (0, 0)) :=
  heap_setCell_same _ k 3 _ _ s (heap_setCell_same _ k 2 _ _ r (heap_setCell_same _ k 1 _ _ q (heap_setCell_same w k 0 _ _ p h)))

theorem below_set4 {B : Nat} {a w : World} (h : Below B a w) {k : Nat} (hk : B ≤ k) (p q r s : Value) :
    Below B a ((((w.setCell ⟨k, 0, none⟩ p).setCell ⟨k, 1, none⟩ q).setCell ⟨k, 2, none⟩ r).setCell ⟨k, 3, none⟩ s) :=
  (((h.setCell (p := ⟨k, 0, none⟩) hk p).setCell (p := ⟨k, 1, none⟩) hk q).setCell (p := ⟨k, 2, none⟩) hk r).setCell (p := ⟨k, 3, none⟩) hk s

/-- What readDigits says when it says no. -/
def digitsNo : Value := .tuple #[.agg #[.int .i64 0, .int .i64 0, .int .i64 0, .int .i64 0], .bool false]
def digsV (l : List UInt8) : List Int := l.map fun b => (b.toNat : Int) - 48

set_option maxRecDepth 100000 in
set_option maxHeartbeats 2000000 in
theorem digits_yes (s4 : ByteArray) (w : World) (hsz : s4.size = 4) (hd : onlyD s4.data.toList = true) :
    Calls Try.prog 49 #[.string s4] w fun e w' => e = .returned (.tuple #[.agg ((digsV s4.data.toList).map (Value.int .i64)).toArray, .bool true]) ∧ Below w.heap.size w w' := by
  have hod := fun W => onlyDigits_any s4 W (by omega)
  rw [hd] at hod
  have HOD := Lib.hid hod
  have HZ := Lib.hid hsz
  have HD := Lib.hid hd
  have hz4 : 4 ≤ s4.size := by omega
  have hz4' : s4.size ≤ 4 := by omega
  have hl4 : s4.data.toList.length = 4 := by rw [Array.length_toList]; exact hsz
  have HL4 := Lib.hid hl4
  have hne : ((s4.size : Int) != 4) = false := by rw [hsz]; rfl
  clear hd hod hsz hl4
  go_enter Try.func49, Try.ntmps49
  go_wp2_with (first | (go_at_call 57; refine (HOD.out _).mono ?_; rintro e w1 ⟨rfl, hb1⟩))
  have hz1 := hb1.size
  simp only [World.size_alloc] at hz1
  have hres : w1.heap[w.heap.size]? = some (.cells #[.int .i64 0, .int .i64 0, .int .i64 0, .int .i64 0] 42 (0, 0)) := (hb1.block w.heap.size (by simp)).trans (heap_new _ rfl)
  have hbw : Below w.heap.size w w1 := ((Below.refl _ _).alloc (Nat.le_refl _) _).trans (hb1.mono (by simp))
  obtain ⟨ds, hds⟩ : ∃ ds : List Int, ds = digsV s4.data.toList := ⟨_, rfl⟩
  have hdl : ds.length = 4 := by rw [hds]; unfold digsV; rw [List.length_map]; exact HL4.out
  have HDS := Lib.hid hds
  have HDL := Lib.hid hdl
  have hstart : (((w1.alloc (.cells #[.int .i64 0, .int .i64 0, .int .i64 0, .int .i64 0] 42)).iter s4 0).heap[w1.heap.size]? = some (.cells (((ds.take 0) ++ List.replicate (ds.length - 0) 0).map (Value.int .i64)).toArray 42 (0, 0))) := by
    rw [hdl]
    exact heap_more _ (heap_new _ rfl)
  have hstart2 : ((w1.alloc (.cells #[.int .i64 0, .int .i64 0, .int .i64 0, .int .i64 0] 42)).iter s4 0).heap[w1.heap.size + 1]? = some (.stringIter s4 0) := heap_new _ (by simp)
  have hstart3 : ((w1.alloc (.cells #[.int .i64 0, .int .i64 0, .int .i64 0, .int .i64 0] 42)).iter s4 0).heap[w.heap.size]? = some (.cells #[.int .i64 0, .int .i64 0, .int .i64 0, .int .i64 0] 42 (0, 0)) := heap_more _ (heap_more _ hres)
  have hstart4 : Below w.heap.size w ((w1.alloc (.cells #[.int .i64 0, .int .i64 0, .int .i64 0, .int .i64 0] 42)).iter s4 0) := (hbw.alloc hbw.size _).alloc (by simp; omega) _
  clear hds hdl hres
  have HST := Lib.hid (And.intro hstart (And.intro hstart2 (And.intro hstart3 hstart4)))
  clear hstart hstart2 hstart3 hstart4 hbw
  go_loopw [] (fun wr => ∃ pos : Nat, pos ≤ 4 ∧ wr.heap[w1.heap.size]? = some (.cells (((ds.take pos) ++ List.replicate (ds.length - pos) 0).map (Value.int .i64)).toArray 42 (0, 0)) ∧
      wr.heap[w1.heap.size + 1]? = some (.stringIter s4 pos) ∧ wr.heap[w.heap.size]? = some (.cells #[.int .i64 0, .int .i64 0, .int .i64 0, .int .i64 0] 42 (0, 0)) ∧ Below w.heap.size w wr)
    (fun wr => 4 - wr.iterPos (w1.heap.size + 1))
  case atStart => exact ⟨0, by omega, HST.out.1, HST.out.2.1, HST.out.2.2.1, HST.out.2.2.2⟩
  case round =>
    obtain ⟨pos, hp, hblk, hit, hres, hbr⟩ := hrel
    have HBLK := Lib.hid hblk
    have HIT := Lib.hid hit
    have HRES := Lib.hid hres
    by_cases hlt : pos < 4
    · have hps : pos < s4.size := by omega
      have hb := byte_get s4 pos hps
      have hdg : 48 ≤ (s4[pos]'hps).toNat ∧ (s4[pos]'hps).toNat ≤ 57 := by
        have := HD.out
        simp only [onlyD, List.all_eq_true] at this
        simpa [isDig] using this _ (List.mem_of_getElem? hb)
      have hdlt : pos < ds.length := by rw [HDL.out]; exact hlt
      have hdx : ds[pos] = ((s4[pos]'hps).toNat : Int) - 48 := by
        have : ds[pos]? = some (((s4[pos]'hps).toNat : Int) - 48) := by rw [HDS.out]; unfold digsV; rw [List.getElem?_map, hb]; rfl
        rw [List.getElem?_eq_getElem hdlt] at this
        exact Option.some.inj this
      have hn := Lib.run_next_ascii_at (P := Try.prog) wr (w1.heap.size + 1) s4 pos 0 hit hps (by omega)
      obtain ⟨x, hx⟩ : ∃ x, (s4[pos]'hps).toNat = x := ⟨_, rfl⟩
      rw [hx] at hdg hn hdx
      have hx1 : (48 : Int) ≤ (x : Int) := by omega
      have hx2 : (x : Int) ≤ 57 := by omega
      have hlt4 : (pos : Int) < 4 := by omega
      have HDX := Lib.hid hdx
      obtain ⟨wn, hwn⟩ : ∃ wn, wr.iterAt (w1.heap.size + 1) s4 (pos + 1) = wn := ⟨_, rfl⟩
      have oth : ∀ j, j ≠ w1.heap.size + 1 → wn.heap[j]? = wr.heap[j]? := fun j hj => by rw [← hwn]; exact Lib.iterAt_other _ _ _ _ _ hj
      have hblk2 := (oth w1.heap.size (by omega)).trans hblk
      have hc2 : wn.cell? ⟨w1.heap.size, pos, none⟩ = some (.int .i64 0) := by
        rw [cell_of_row wn _ pos _ _ _ hblk2, List.getElem?_toArray, List.getElem?_map, List.getElem?_append_right (by simp; omega)]
        simp [List.getElem?_replicate]
        omega
      have hf2 := frozen_of_row wn _ pos _ _ hblk2
      rw [hwn] at hn
      have OTH := Lib.hid oth
      have HB2 := Lib.hid hblk2
      have HWN := Lib.hid hwn
      clear hb hdg hx hdx hblk hit hres oth hblk2 hwn
      go_wp2
      go_roundw
      case rel =>
        refine ⟨pos + 1, by omega, ?_, ?_, ?_, ?_⟩
        · rw [heap_setCell_same wn _ pos _ _ _ HB2.out, List.setIfInBounds_toArray, ← fill_step 0 (Value.int .i64) ds pos hdlt, HDX.out]
        · rw [Below.heap_setCell _ _ _ _ (by simp), ← HWN.out]; exact Lib.iterAt_heap _ _ _ _ _ HIT.out
        · rw [Below.heap_setCell _ _ _ _ (by simp; omega), OTH.out _ (by omega)]; exact HRES.out
        · rw [← HWN.out]; exact (Lib.below_iterAt hbr (by omega) _ _).setCell (by simp; omega) _
      case measure =>
        have e1 : (wn.setCell ⟨w1.heap.size, pos, none⟩ (.int .i64 ((x : Int) - 48))).iterPos (w1.heap.size + 1) = pos + 1 := by
          unfold World.iterPos
          rw [Below.heap_setCell _ _ _ _ (by simp), ← HWN.out, Lib.iterAt_heap _ _ _ _ _ HIT.out]
        have e2 : wr.iterPos (w1.heap.size + 1) = pos := by
          unfold World.iterPos
          rw [HIT.out]
        rw [e1, e2]; omega
    · have hp4 : pos = 4 := by omega
      subst hp4
      have hn := Lib.run_next_end_at (P := Try.prog) wr (w1.heap.size + 1) s4 4 0 hit (by omega)
      have hdl4 := HDL.out
      obtain ⟨p, q, r, t, rfl⟩ := four_of hdl4
      have c0 : wr.cell? ⟨w1.heap.size, 0, none⟩ = some (.int .i64 p) := cell_of_row wr _ 0 _ _ _ hblk
      have c1 : wr.cell? ⟨w1.heap.size, 1, none⟩ = some (.int .i64 q) := cell_of_row wr _ 1 _ _ _ hblk
      have c2 : wr.cell? ⟨w1.heap.size, 2, none⟩ = some (.int .i64 r) := cell_of_row wr _ 2 _ _ _ hblk
      have c3 : wr.cell? ⟨w1.heap.size, 3, none⟩ = some (.int .i64 t) := cell_of_row wr _ 3 _ _ _ hblk
      have d0 : wr.cell? ⟨w.heap.size, 0, none⟩ = some (.int .i64 0) := cell_of_row wr _ 0 _ _ _ hres
      have d1 : wr.cell? ⟨w.heap.size, 1, none⟩ = some (.int .i64 0) := cell_of_row wr _ 1 _ _ _ hres
      have d2 : wr.cell? ⟨w.heap.size, 2, none⟩ = some (.int .i64 0) := cell_of_row wr _ 2 _ _ _ hres
      have d3 : wr.cell? ⟨w.heap.size, 3, none⟩ = some (.int .i64 0) := cell_of_row wr _ 3 _ _ _ hres
      have f0 := frozen_of_row wr _ 0 _ _ hres
      have f1 := frozen_of_row wr _ 1 _ _ hres
      have f2 := frozen_of_row wr _ 2 _ _ hres
      have f3 := frozen_of_row wr _ 3 _ _ hres
      have hfin := heap_setCell_same _ w.heap.size 3 _ _ (.int .i64 t) (heap_setCell_same _ w.heap.size 2 _ _ (.int .i64 r) (heap_setCell_same _ w.heap.size 1 _ _ (.int .i64 q) (heap_setCell_same wr w.heap.size 0 _ _ (.int .i64 p) hres)))
      have g0 := cell_of_row _ _ 0 _ _ _ hfin
      have g1 := cell_of_row _ _ 1 _ _ _ hfin
      have g2 := cell_of_row _ _ 2 _ _ _ hfin
      have g3 := cell_of_row _ _ 3 _ _ _ hfin
      have hbf := (((hbr.setCell (p := ⟨w.heap.size, 0, none⟩) (Nat.le_refl _) (.int .i64 p)).setCell (p := ⟨w.heap.size, 1, none⟩) (Nat.le_refl _) (.int .i64 q)).setCell (p := ⟨w.heap.size, 2, none⟩) (Nat.le_refl _) (.int .i64 r)).setCell (p := ⟨w.heap.size, 3, none⟩) (Nat.le_refl _) (.int .i64 t)
      have HG := Lib.hid (And.intro g0 (And.intro g1 (And.intro g2 g3)))
      clear hdl4 hblk hit hres hfin g0 g1 g2 g3
      go_wp2
      obtain ⟨g0, g1, g2, g3⟩ := HG.out
      refine bodyPost_ret (v := .tuple #[.agg #[.int .i64 p, .int .i64 q, .int .i64 r, .int .i64 t], .bool true]) (by simp [results, Try.results49, go_sem, g0, g1, g2, g3]) rfl ⟨?_, hbf⟩
      rw [← HDS.out]
      rfl


set_option maxRecDepth 100000 in
set_option maxHeartbeats 2000000 in
theorem digits_no (s : ByteArray) (w : World) (h : ¬ (s.size = 4 ∧ onlyD s.data.toList = true)) :
    Calls Try.prog 49 #[.string s] w fun e w' => e = .returned digitsNo ∧ Below w.heap.size w w' := by
  by_cases h4 : s.size = 4
  · have hod := fun W => onlyDigits_any s W (by omega)
    have hd : onlyD s.data.toList = false := by
      cases e : onlyD s.data.toList with
      | false => rfl
      | true => exact absurd ⟨h4, e⟩ h
    rw [hd] at hod
    have HOD := Lib.hid hod
    have hne : ((s.size : Int) != 4) = false := by rw [h4]; rfl
    clear hod hd h4 h
    go_enter Try.func49, Try.ntmps49
    go_wp2_with (first | (go_at_call 57; refine (HOD.out _).mono ?_; rintro e w1 ⟨rfl, hb1⟩; have hblk := (hb1.block w.heap.size (by simp)).trans (heap_new _ rfl); obtain ⟨c0, c1, c2, c3, f0, f1, f2, f3⟩ := four_facts hblk; have HG := Lib.hid (four_set hblk (.int .i64 0) (.int .i64 0) (.int .i64 0) (.int .i64 0)); have HBF := Lib.hid (below_set4 (k := w.heap.size) (((Below.refl _ _).alloc (Nat.le_refl _) _).trans (hb1.mono (by simp))) (Nat.le_refl _) (.int .i64 0) (.int .i64 0) (.int .i64 0) (.int .i64 0)); clear hblk))
    obtain ⟨g0, g1, g2, g3, _⟩ := four_facts HG.out
    exact bodyPost_ret (v := digitsNo) (by simp [results, Try.results49, go_sem, g0, g1, g2, g3, digitsNo]) rfl ⟨rfl, HBF.out⟩
  · have hne : ((s.size : Int) != 4) = true := by simp; omega
    clear h4 h
    go_enter Try.func49, Try.ntmps49
    go_wp2
    go_returns
    exact ⟨rfl, by go_grown⟩

theorem digsV_four {b0 b1 b2 b3 : UInt8} : digsV [b0, b1, b2, b3] = [(b0.toNat : Int) - 48, (b1.toNat : Int) - 48, (b2.toNat : Int) - 48, (b3.toNat : Int) - 48] := rfl

set_option maxRecDepth 100000 in
set_option maxHeartbeats 2000000 in
theorem split_yes (b0 b1 b2 b3 b5 : UInt8) (w : World) (c : Int) (hd : onlyD [b0, b1, b2, b3] = true) (hc : Lib.indexByte signs b5 = c) (hc0 : 0 ≤ c) :
    Calls Try.prog 33 #[.string ⟨#[b0, b1, b2, b3, 45, b5]⟩] w fun e w' => e = .returned (.tuple #[.agg (([b0, b1, b2, b3].map fun b => (b.toNat : Int) - 48).map (Value.int .i64)).toArray, .int .i64 c, .bool true]) ∧ Below w.heap.size w w' := by
  obtain ⟨s4, hs4⟩ : ∃ s4 : ByteArray, s4 = ⟨#[b0, b1, b2, b3]⟩ := ⟨_, rfl⟩
  have hex : (⟨#[b0, b1, b2, b3, 45, b5]⟩ : ByteArray).extract 0 4 = s4 := by rw [hs4]; rfl
  have hsz : s4.size = 4 := by rw [hs4]; rfl
  have hsl : s4.data.toList = [b0, b1, b2, b3] := by rw [hs4]
  obtain ⟨p, hp⟩ : ∃ p, (b0.toNat : Int) - 48 = p := ⟨_, rfl⟩
  obtain ⟨q, hq⟩ : ∃ q, (b1.toNat : Int) - 48 = q := ⟨_, rfl⟩
  obtain ⟨r, hr⟩ : ∃ r, (b2.toNat : Int) - 48 = r := ⟨_, rfl⟩
  obtain ⟨t, ht⟩ : ∃ t, (b3.toNat : Int) - 48 = t := ⟨_, rfl⟩
  have hod : ∀ W, Calls Try.prog 49 #[.string s4] W fun e w' => e = .returned (.tuple #[.agg #[.int .i64 p, .int .i64 q, .int .i64 r, .int .i64 t], .bool true]) ∧ Below W.heap.size W w' := fun W => by
    have := digits_yes s4 W hsz (by rw [hsl]; exact hd)
    rw [hsl, digsV_four, hp, hq, hr, ht] at this
    exact this
  have HOD := Lib.hid hod
  have hix := fun W => Try.strings_IndexByte ⟨signs.toArray⟩ (b5.toNat : Int) W
  have hix2 : ∀ W, Calls Try.prog 50 #[.string ⟨#[48, 49, 50, 51, 52, 53, 54, 55, 56, 57, 120]⟩, .int .u8 (b5.toNat : Int)] W fun e w' => e = .returned (.int .i64 c) ∧ w' = W := fun W => by
    have := hix W
    simp only [Int.toNat_natCast, Nat.toUInt8_eq, UInt8.ofNat_toNat, hc] at this
    exact this
  have HIX := Lib.hid hix2
  have HC := Lib.hid hc
  simp only [List.map_cons, List.map_nil, hp, hq, hr, ht]
  clear hc hd hod hix hs4 hsl hsz hix2 hp hq hr ht
  go_enter Try.func33, Try.ntmps33
  go_wp2_with fail
  refine (HOD.out _).mono ?_
  rintro e w1 ⟨rfl, hb1⟩
  have hblk := (hb1.block w.heap.size (by simp)).trans (heap_new _ rfl)
  obtain ⟨c0, c1, c2, c3, f0, f1, f2, f3⟩ := four_facts hblk
  have hlt1 : w.heap.size < w1.heap.size := by
    have := hb1.size
    simp at this
    omega
  have HBLK := Lib.hid hblk
  have HB1 := Lib.hid hb1
  clear hblk hb1
  go_wp2_with (go_at_call 50; refine (HIX.out _).mono ?_; rintro e w9 ⟨rfl, rfl⟩)
  have hfin := heap_more (.cells #[.int .i64 p, .int .i64 q, .int .i64 r, .int .i64 t] 42) (four_set HBLK.out (.int .i64 p) (.int .i64 q) (.int .i64 r) (.int .i64 t))
  obtain ⟨g0, g1, g2, g3, _⟩ := four_facts hfin
  have hbw := below_set4 (k := w.heap.size) (((Below.refl w.heap.size w).alloc (Nat.le_refl _) _).trans (HB1.out.mono (by simp))) (Nat.le_refl _) (.int .i64 p) (.int .i64 q) (.int .i64 r) (.int .i64 t)
  exact bodyPost_ret (v := .tuple #[.agg #[.int .i64 p, .int .i64 q, .int .i64 r, .int .i64 t], .int .i64 c, .bool true]) (by simp [results, Try.results33, go_sem, g0, g1, g2, g3]) rfl ⟨rfl, hbw.alloc hbw.size _⟩

set_option maxRecDepth 100000 in
set_option maxHeartbeats 2000000 in
theorem split_no (s : ByteArray) (w : World) (h : ¬ ∃ b0 b1 b2 b3 b5 c, s = ⟨#[b0, b1, b2, b3, 45, b5]⟩ ∧ onlyD [b0, b1, b2, b3] = true ∧ Lib.indexByte signs b5 = c ∧ 0 ≤ c) :
    Calls Try.prog 33 #[.string s] w fun e w' => e = .returned splitNo ∧ Below w.heap.size w w' := by
  by_cases h6 : s.size = 6
  · obtain ⟨b0, b1, b2, b3, b4, b5, rfl⟩ := six_of s h6
    clear h6
    by_cases h4 : b4 = 45
    · subst h4
      obtain ⟨s4, hs4⟩ : ∃ s4 : ByteArray, s4 = ⟨#[b0, b1, b2, b3]⟩ := ⟨_, rfl⟩
      have hex : (⟨#[b0, b1, b2, b3, 45, b5]⟩ : ByteArray).extract 0 4 = s4 := by rw [hs4]; rfl
      have hsz : s4.size = 4 := by rw [hs4]; rfl
      have hsl : s4.data.toList = [b0, b1, b2, b3] := by rw [hs4]
      obtain ⟨c, hc⟩ : ∃ c, Lib.indexByte signs b5 = c := ⟨_, rfl⟩
      have hix := fun W => Try.strings_IndexByte ⟨signs.toArray⟩ (b5.toNat : Int) W
      have hix2 : ∀ W, Calls Try.prog 50 #[.string ⟨#[48, 49, 50, 51, 52, 53, 54, 55, 56, 57, 120]⟩, .int .u8 (b5.toNat : Int)] W fun e w' => e = .returned (.int .i64 c) ∧ w' = W := fun W => by
        have := hix W
        simp only [Int.toNat_natCast, Nat.toUInt8_eq, UInt8.ofNat_toNat, hc] at this
        exact this
      have HIX := Lib.hid hix2
      by_cases hd : onlyD [b0, b1, b2, b3] = true
      · have hc0 : c < 0 := by
          by_cases e : c < 0
          · exact e
          · exact absurd ⟨b0, b1, b2, b3, b5, c, rfl, hd, hc, by omega⟩ h
        obtain ⟨p, hp⟩ : ∃ p, (b0.toNat : Int) - 48 = p := ⟨_, rfl⟩
        obtain ⟨q, hq⟩ : ∃ q, (b1.toNat : Int) - 48 = q := ⟨_, rfl⟩
        obtain ⟨r, hr⟩ : ∃ r, (b2.toNat : Int) - 48 = r := ⟨_, rfl⟩
        obtain ⟨t, ht⟩ : ∃ t, (b3.toNat : Int) - 48 = t := ⟨_, rfl⟩
        have hod : ∀ W, Calls Try.prog 49 #[.string s4] W fun e w' => e = .returned (.tuple #[.agg #[.int .i64 p, .int .i64 q, .int .i64 r, .int .i64 t], .bool true]) ∧ Below W.heap.size W w' := fun W => by
          have := digits_yes s4 W hsz (by rw [hsl]; exact hd)
          rw [hsl, digsV_four, hp, hq, hr, ht] at this
          exact this
        have HOD := Lib.hid hod
        clear hc hd hod hix hs4 hsl hsz hix2 hp hq hr ht h
        go_enter Try.func33, Try.ntmps33
        go_wp2_with fail
        refine (HOD.out _).mono ?_
        rintro e w1 ⟨rfl, hb1⟩
        have hblk := (hb1.block w.heap.size (by simp)).trans (heap_new _ rfl)
        obtain ⟨c0, c1, c2, c3, f0, f1, f2, f3⟩ := four_facts hblk
        have hlt1 : w.heap.size < w1.heap.size := by
          have := hb1.size
          simp at this
          omega
        have HBLK := Lib.hid hblk
        have HB1 := Lib.hid hb1
        clear hblk hb1
        go_wp2_with (go_at_call 50; refine (HIX.out _).mono ?_; rintro e w9 ⟨rfl, rfl⟩)
        have hfin := heap_more (.cells #[.int .i64 p, .int .i64 q, .int .i64 r, .int .i64 t] 42) (four_set HBLK.out (.int .i64 0) (.int .i64 0) (.int .i64 0) (.int .i64 0))
        obtain ⟨g0, g1, g2, g3, _⟩ := four_facts hfin
        have hbw := below_set4 (k := w.heap.size) (((Below.refl w.heap.size w).alloc (Nat.le_refl _) _).trans (HB1.out.mono (by simp))) (Nat.le_refl _) (.int .i64 0) (.int .i64 0) (.int .i64 0) (.int .i64 0)
        exact bodyPost_ret (v := splitNo) (by simp [results, Try.results33, go_sem, g0, g1, g2, g3, splitNo]) rfl ⟨rfl, hbw.alloc hbw.size _⟩
      · have hod : ∀ W, Calls Try.prog 49 #[.string s4] W fun e w' => e = .returned (.tuple #[.agg #[.int .i64 0, .int .i64 0, .int .i64 0, .int .i64 0], .bool false]) ∧ Below W.heap.size W w' := fun W => digits_no s4 W (fun hh => hd (by rw [← hsl]; exact hh.2))
        have HOD := Lib.hid hod
        clear hc hd hod hix hs4 hsl hsz hix2 h
        go_enter Try.func33, Try.ntmps33
        go_wp2_with fail
        refine (HOD.out _).mono ?_
        rintro e w1 ⟨rfl, hb1⟩
        have hblk := (hb1.block w.heap.size (by simp)).trans (heap_new _ rfl)
        obtain ⟨c0, c1, c2, c3, f0, f1, f2, f3⟩ := four_facts hblk
        have hlt1 : w.heap.size < w1.heap.size := by
          have := hb1.size
          simp at this
          omega
        have HBLK := Lib.hid hblk
        have HB1 := Lib.hid hb1
        clear hblk hb1
        go_wp2_with (go_at_call 50; refine (HIX.out _).mono ?_; rintro e w9 ⟨rfl, rfl⟩)
        have hfin := heap_more (.cells #[.int .i64 0, .int .i64 0, .int .i64 0, .int .i64 0] 42) (four_set HBLK.out (.int .i64 0) (.int .i64 0) (.int .i64 0) (.int .i64 0))
        obtain ⟨g0, g1, g2, g3, _⟩ := four_facts hfin
        have hbw := below_set4 (k := w.heap.size) (((Below.refl w.heap.size w).alloc (Nat.le_refl _) _).trans (HB1.out.mono (by simp))) (Nat.le_refl _) (.int .i64 0) (.int .i64 0) (.int .i64 0) (.int .i64 0)
        exact bodyPost_ret (v := splitNo) (by simp [results, Try.results33, go_sem, g0, g1, g2, g3, splitNo]) rfl ⟨rfl, hbw.alloc hbw.size _⟩
    · have h4' : b4.toNat ≠ 45 := fun e => h4 (UInt8.toNat_inj.1 e)
      have hne : (((((⟨#[b0, b1, b2, b3, b4, b5]⟩ : ByteArray)[4]'(by simp [ByteArray.size])).toNat : Int)) != 45) = true := by
        show ((b4.toNat : Int) != 45) = true
        simp; omega
      clear h4 h4' h
      go_enter Try.func33, Try.ntmps33
      go_wp2
      go_returns
      exact ⟨rfl, by go_grown⟩
  · have hne : ((s.size : Int) != 6) = true := by simp; omega
    clear h6 h
    go_enter Try.func33, Try.ntmps33
    go_wp2
    go_returns
    exact ⟨rfl, by go_grown⟩
end Go.Proofs.Ytempfagjbpnlcaa
