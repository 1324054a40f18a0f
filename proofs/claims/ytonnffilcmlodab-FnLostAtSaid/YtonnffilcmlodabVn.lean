/- Fractions: products of many. No condition. -/
import Derived.Test.YtonnffilcmlodabVm
namespace Go.Proofs.Ytonnffilcmlodab
open Go.RowKit

/-- Fractions, as they lie in memory. -/
def flatQ (rs : List (Nat × Nat)) : List Value := rs.flatMap fun r => [.int .i64 (r.1 : Int), .int .i64 (r.2 : Int)]
theorem flatQ_length (rs : List (Nat × Nat)) : (flatQ rs).length = 2 * rs.length := by
  induction rs with
  | nil => rfl
  | cons r rs ih => simp only [flatQ, List.flatMap_cons, List.length_append, List.length_cons, List.length_nil] at ih ⊢; omega
theorem flatQ_cons (r : Nat × Nat) (rs : List (Nat × Nat)) : flatQ (r :: rs) = [.int .i64 (r.1 : Int), .int .i64 (r.2 : Int)] ++ flatQ rs := rfl
theorem flatQ_append (rs ss : List (Nat × Nat)) : flatQ (rs ++ ss) = flatQ rs ++ flatQ ss := by simp [flatQ]
theorem flatQ_get (rs : List (Nat × Nat)) (k : Nat) (h : k < rs.length) : (flatQ rs)[k * 2]? = some (.int .i64 (rs[k].1 : Int)) ∧ (flatQ rs)[k * 2 + 1]? = some (.int .i64 (rs[k].2 : Int)) := by
  induction rs generalizing k with
  | nil => simp at h
  | cons r rs ih =>
    rw [flatQ_cons]
    cases k with
    | zero => exact ⟨rfl, rfl⟩
    | succ k =>
      simp only [List.length_cons] at h
      have := ih k (by omega)
      rw [List.getElem?_append_right (by simp; omega), List.getElem?_append_right (by simp; omega)]
      simp only [List.length_cons, List.length_nil, List.getElem_cons_succ]
      rw [show (k + 1) * 2 - (0 + 1 + 1) = k * 2 by omega, show (k + 1) * 2 + 1 - (0 + 1 + 1) = k * 2 + 1 by omega]
      exact this
theorem fracs_at {w : World} {b o : Nat} {rs : List (Nat × Nat)} (hc : ∀ j u, (flatQ rs)[j]? = some u → w.cell? ⟨b, o + j, none⟩ = some u) {k : Nat} (hk : k < rs.length) :
    w.cell? ⟨b, o + k * 2, none⟩ = some (.int .i64 (rs[k].1 : Int)) ∧ w.cell? ⟨b, o + k * 2 + 1, none⟩ = some (.int .i64 (rs[k].2 : Int)) := by
  have h := flatQ_get rs k hk
  exact ⟨hc _ _ h.1, by rw [Nat.add_assoc]; exact hc _ _ h.2⟩
theorem flatQ_one (rs : List (Nat × Nat)) : ∀ u ∈ flatQ rs, u.oneCell' = true := by
  intro u hu
  obtain ⟨r, _, h⟩ := List.mem_flatMap.1 hu
  simp only [List.mem_cons, List.not_mem_nil, or_false] at h
  rcases h with rfl | rfl <;> rfl

def prodQ (p : Nat × Nat) (L : List (Nat × Nat)) : Nat × Nat := L.foldl mulF p
theorem prodQ_take {p : Nat × Nat} {L : List (Nat × Nat)} {k : Nat} (hk : k < L.length) : prodQ p (L.take (k + 1)) = mulF (prodQ p (L.take k)) L[k] := by
  unfold prodQ; rw [List.take_succ_eq_append_getElem hk, List.foldl_append]; rfl
/-- No product on the way is too great. -/
def Fit (p : Nat × Nat) (L : List (Nat × Nat)) : Prop := ∀ (k : Nat) (hk : k < L.length), (prodQ p (L.take k)).1 * L[k].1 ≤ 1000000000000 ∧ (prodQ p (L.take k)).2 * L[k].2 ≤ 1000000000000 ∧ 0 < (prodQ p (L.take k)).2 * L[k].2

/-- A variable that holds a fraction. -/
def VarQ (w : World) (g : Nat) (q : Nat × Nat) : Prop := w.cell? ⟨g, 0, none⟩ = some (.int .i64 (q.1 : Int)) ∧ w.cell? ⟨g, 1, none⟩ = some (.int .i64 (q.2 : Int)) ∧ w.frozen? ⟨g, 0, none⟩ = false ∧ w.frozen? ⟨g, 1, none⟩ = false ∧ g < w.heap.size
theorem VarQ.of {w : World} {g : Nat} {q : Nat × Nat} (hc : w.heap[g]? = some (.cells #[.int .i64 (q.1 : Int), .int .i64 (q.2 : Int)] 26 (0, 0))) : VarQ w g q :=
  ⟨(cellF_of hc).1, (cellF_of hc).2, frozen_of_row _ _ _ _ _ hc, frozen_of_row _ _ _ _ _ hc, lt_of_heapF hc⟩
theorem VarQ.keep {w w' : World} {B g : Nat} {q : Nat × Nat} (h : VarQ w g q) (hb : Below B w w') (hg : g < B) : VarQ w' g q := by
  obtain ⟨h1, h2, h3, h4, h5⟩ := h
  exact ⟨keepF hb hg h1, keepF hb hg h2, keepFz hb hg h3, keepFz hb hg h4, Nat.lt_of_lt_of_le h5 hb.size⟩
theorem VarQ.box {w : World} {g : Nat} {q : Nat × Nat} (h : VarQ w g q) : FBox w g := ⟨_, _, h.1, h.2.1, h.2.2.1, h.2.2.2.1, h.2.2.2.2⟩
theorem varQ_new (w : World) (o1 o2 : Obj) (q : Nat × Nat) : VarQ (((w.alloc o1).alloc o2).alloc (.cells #[.int .i64 (q.1 : Int), .int .i64 (q.2 : Int)] 26)) (w.heap.size + 2) q := by
  refine VarQ.of ?_
  have := heap_alloc_new ((w.alloc o1).alloc o2) (.cells #[.int .i64 (q.1 : Int), .int .i64 (q.2 : Int)] 26)
  simpa using this
theorem box2F (w : World) (o1 o3 : Obj) (x y : Value) : FBox (((w.alloc o1).alloc (.cells #[x, y] 26)).alloc o3) (w.heap.size + 1) := by
  have h1 := FBox.new (w.alloc o1) x y
  rw [World.size_alloc] at h1
  exact h1.keep (B := w.heap.size + 2) ((Below.refl _ _).alloc (by simp) _) (by omega)

theorem fboxOther {w : World} {b g : Nat} {x y : Value} (h : FBox w b) (hne : b ≠ g) : FBox ((w.setCell ⟨g, 0, none⟩ x).setCell ⟨g, 1, none⟩ y) b := by
  obtain ⟨p, q, h1, h2, h3, h4, h5⟩ := h
  have hn : ∀ i j : Nat, (⟨b, i, none⟩ : Addr) ≠ ⟨g, j, none⟩ := fun i j e => by simp only [Addr.mk.injEq] at e; exact hne e.1
  have hn' : ∀ i j : Nat, (⟨g, i, none⟩ : Addr) ≠ ⟨b, j, none⟩ := fun i j e => hn j i e.symm
  refine ⟨p, q, ?_, ?_, by simp [h3], by simp [h4], by simp [World.setCell]; exact h5⟩
  · rw [World.cell?_setCell_other _ _ _ _ (by first | exact hn _ _ | exact hn' _ _), World.cell?_setCell_other _ _ _ _ (by first | exact hn _ _ | exact hn' _ _)]; exact h1
  · rw [World.cell?_setCell_other _ _ _ _ (by first | exact hn _ _ | exact hn' _ _), World.cell?_setCell_other _ _ _ _ (by first | exact hn _ _ | exact hn' _ _)]; exact h2

set_option maxRecDepth 100000 in
set_option maxHeartbeats 4000000 in
theorem productOf_any (p1 p2 : Nat) (A : Option Addr) (n c : Nat) (L : List (Nat × Nat)) (w : World) (ho : Own w 0 w.heap.size A (flatQ L)) (hn : n = L.length) (hl : L.length ≤ 100) (hf : Fit (p1, p2) L) :
    Calls Try.prog 32 #[frV (p1, p2), .slice A n c] w fun e w' => e = .returned (frV (prodQ (p1, p2) L)) ∧ Below w.heap.size w w' := by
  have HF := Lib.hid hf
  subst hn
  have HO := Lib.hid ho
  unfold frV
  dsimp only
  clear hf
  have HB2 := Lib.hid (below3F w (.cells #[.int .i64 (p1 : Int), .int .i64 (p2 : Int)] 26) (.cells #[.int .i64 0, .int .i64 0] 26) (.cells #[.int .i64 (p1 : Int), .int .i64 (p2 : Int)] 26))
  go_enter Try.func32, Try.ntmps32
  go_wp2
  go_loopw [11] (fun i wr => ∃ k : Nat, k ≤ L.length ∧ i = .int .i64 k ∧ Hid (VarQ wr (w.heap.size + 1 + 1) (prodQ (p1, p2) (L.take k))) ∧ Hid (FBox wr (w.heap.size + 1)) ∧ Below w.heap.size w wr) (fun i _ => L.length - (intOf i).toNat)
  case atStart => exact ⟨0, by omega, rfl, Lib.hid (varQ_new w _ _ (p1, p2)), Lib.hid (box2F w _ _ _ _), HB2.out⟩
  case round =>
    obtain ⟨k, hk, rfl, HV, HX, hbr⟩ := hrel
    have HBR := Lib.hid hbr
    have hbz := hbr.size
    by_cases hlt : k < L.length
    · obtain ⟨b, o, rfl, hb, hc⟩ := (HO.out.below hbr).open (by rw [flatQ_length]; omega)
      obtain ⟨h1, h2⟩ := fracs_at hc hlt
      have HTK := Lib.hid (prodQ_take (p := (p1, p2)) hlt)
      have hf := HF.out k hlt
      obtain ⟨q, hq⟩ : ∃ q, L[k] = q := ⟨_, rfl⟩
      obtain ⟨a, ha⟩ : ∃ a, prodQ (p1, p2) (L.take k) = a := ⟨_, rfl⟩
      rw [hq] at h1 h2 HTK hf
      rw [ha] at HTK hf HV
      obtain ⟨q1, q2⟩ := q
      obtain ⟨a1, a2⟩ := a
      dsimp only at h1 h2 hf
      obtain ⟨f1, f2, f3⟩ := hf
      have HT := Lib.hid (fun X => times_any a1 a2 q1 q2 X f1 f2 f3)
      obtain ⟨r, hr⟩ : ∃ r, mulF (a1, a2) (q1, q2) = r := ⟨_, rfl⟩
      rw [hr] at HT HTK
      obtain ⟨r1, r2⟩ := r
      unfold frV at HT
      dsimp only at HT
      have HVV := Lib.hid HV.out
      obtain ⟨v0, v1, v2, v3, v4⟩ := HV.out
      dsimp only at v0 v1
      have hkI : (k : Int) < (L.length : Int) := by omega
      have hba : Below wr.heap.size wr (wr.alloc (.cells #[.int .i64 (q1 : Int), .int .i64 (q2 : Int)] 26)) := (Below.refl _ _).alloc (Nat.le_refl _) _
      have hv4 : w.heap.size + 1 + 1 < wr.heap.size := v4
      have HBA := Lib.hid hba
      clear hq ha hbr hc f1 f2 f3 hr hba v4 HV ho
      go_wp2_with fail
      refine (HT.out _).mono ?_
      rintro e w5 ⟨rfl, hb5⟩
      have hbw5 : Below wr.heap.size wr w5 := HBA.out.trans (hb5.mono HBA.out.size)
      have hx5 := HVV.out.keep hbw5 hv4
      have HX5 := Lib.hid (HX.out.keep hbw5 (by omega))
      obtain ⟨y0, y1, y2, y3, y4⟩ := hx5
      have hcs := cellsF_set (x := .int .i64 (r1 : Int)) (y := .int .i64 (r2 : Int)) y0 y1
      have hbb := ((HBR.out.trans (hbw5.mono hbz)).setCell (p := ⟨w.heap.size + 1 + 1, 0, none⟩) (by show w.heap.size ≤ w.heap.size + 1 + 1; omega) (.int .i64 (r1 : Int))).setCell (p := ⟨w.heap.size + 1 + 1, 1, none⟩) (by show w.heap.size ≤ w.heap.size + 1 + 1; omega) (.int .i64 (r2 : Int))
      have HFIN := Lib.hid (show VarQ ((w5.setCell ⟨w.heap.size + 1 + 1, 0, none⟩ (.int .i64 (r1 : Int))).setCell ⟨w.heap.size + 1 + 1, 1, none⟩ (.int .i64 (r2 : Int))) (w.heap.size + 1 + 1) (r1, r2) from ⟨hcs.1, hcs.2, by simp [y2], by simp [y3], by simp [World.setCell]; exact y4⟩)
      have HFX := Lib.hid (fboxOther (x := .int .i64 (r1 : Int)) (y := .int .i64 (r2 : Int)) HX5.out (show w.heap.size + 1 ≠ w.heap.size + 1 + 1 by omega))
      have HBB := Lib.hid hbb
      clear hcs hbb hb5 hbw5 y4
      go_wp2
      go_roundw
      case rel => exact ⟨k + 1, by omega, by go_num, by rw [HTK.out]; exact HFIN, HFX, HBB.out⟩
      case measure => simp [intOf]; omega
    · have hke : k = L.length := by omega
      subst hke
      have HE := Lib.hid (show prodQ (p1, p2) (L.take L.length) = prodQ (p1, p2) L by rw [List.take_length])
      rw [HE.out] at HV
      obtain ⟨r, hr⟩ : ∃ r, prodQ (p1, p2) L = r := ⟨_, rfl⟩
      have HRR := Lib.hid hr
      rw [hr] at HV
      obtain ⟨r1, r2⟩ := r
      obtain ⟨v0, v1, v2, v3, v4⟩ := HV.out
      dsimp only at v0 v1
      obtain ⟨x, y, k0, k1, f0, f1, _⟩ := HX.out
      clear hr hbr v4 ho
      go_wp2
      have hcs := cellsF_set (x := .int .i64 (r1 : Int)) (y := .int .i64 (r2 : Int)) k0 k1
      have hbb := (HBR.out.setCell (p := ⟨w.heap.size + 1, 0, none⟩) (by show w.heap.size ≤ w.heap.size + 1; omega) (.int .i64 (r1 : Int))).setCell (p := ⟨w.heap.size + 1, 1, none⟩) (by show w.heap.size ≤ w.heap.size + 1; omega) (.int .i64 (r2 : Int))
      refine bodyPost_ret (results_cellF rfl rfl (loadFc hcs.1 hcs.2)) rfl ?_
      exact ⟨by rw [HRR.out], hbb⟩
end Go.Proofs.Ytonnffilcmlodab
