/- Towns: spec's least ways. No condition. -/
import Derived.Test.YtmbpcilgjolaeaaN1
namespace Go.Proofs.Ytmbpcilgjolaeaa
open Go.RowKit

def okS (n : Int) (r : List Int) : Bool := decide (r.length = 3) && (inR (r.getD 0 0) 0 (n - 1) && (inR (r.getD 1 0) 0 (n - 1) && inR (r.getD 2 0) 1 20))
def st (r : List Int) : St := ((r.getD 0 0).toNat, (r.getD 1 0).toNat, (r.getD 2 0).toNat)
theorem three_of {r : List Int} (h : r.length = 3) : ∃ p q s, r = [p, q, s] := by
  rcases r with _ | ⟨p, _ | ⟨q, _ | ⟨s, _ | ⟨x, r⟩⟩⟩⟩
  · simp at h
  · simp at h
  · simp at h
  · exact ⟨p, q, s, rfl⟩
  · simp at h
theorem okS_three (n p q s : Int) : okS n [p, q, s] = (inR p 0 (n - 1) && (inR q 0 (n - 1) && inR s 1 20)) := by simp [okS]
theorem okS_no {n : Int} {r : List Int} (h : ¬ r.length = 3) : okS n r = false := by simp [okS, h]
theorem street_row {n : Nat} {rs : List (List Int)} (h : rs.all (okS n) = true) {j : Nat} (hj : j < rs.length) : ∃ a b l : Nat, rs[j] = [(a : Int), (b : Int), (l : Int)] ∧ a < n ∧ b < n ∧ 1 ≤ l ∧ l ≤ 20 ∧ st rs[j] = (a, b, l) := by
  have h1 := List.all_eq_true.1 h _ (List.getElem_mem hj)
  by_cases h3 : rs[j].length = 3
  · obtain ⟨p, q, s, he⟩ := three_of h3
    rw [he, okS_three] at h1
    simp only [Bool.and_eq_true, inR_iff] at h1
    refine ⟨p.toNat, q.toNat, s.toNat, ?_, by omega, by omega, by omega, by omega, by rw [he]; rfl⟩
    rw [he, Int.toNat_of_nonneg (by omega), Int.toNat_of_nonneg (by omega), Int.toNat_of_nonneg (by omega)]
  · rw [okS_no h3] at h1; cases h1
theorem street_lt {n : Nat} {rs : List (List Int)} (h : rs.all (okS n) = true) : ∀ s ∈ rs.map st, s.1 < n ∧ s.2.1 < n := fun s hs => by
  obtain ⟨r, hr, rfl⟩ := List.mem_map.1 hs
  obtain ⟨j, hj, rfl⟩ := List.getElem_of_mem hr
  obtain ⟨a, b, l, _, h1, h2, _, _, h3⟩ := street_row h hj
  rw [h3]; exact ⟨h1, h2⟩
/-- A street in memory. -/
theorem Grid.street {w : World} {B : Nat} {A : Option Addr} {rs : List (List Int)} (h : Grid w 0 B A rs) {n : Nat} (hv : rs.all (okS n) = true) {k : Nat} (hk : k < rs.length) :
    ∃ (a b l : Nat) (bA oA b' o' c1 : Nat), rs[k] = [(a : Int), (b : Int), (l : Int)] ∧ st rs[k] = (a, b, l) ∧ (a < n ∧ b < n ∧ 1 ≤ l ∧ l ≤ 20) ∧ A = some ⟨bA, oA, none⟩ ∧ w.cell? ⟨bA, oA + k, none⟩ = some (.slice (some ⟨b', o', none⟩) 3 c1) ∧ w.cell? ⟨b', o', none⟩ = some (.int .i64 a) ∧ w.cell? ⟨b', o' + 1, none⟩ = some (.int .i64 b) ∧ w.cell? ⟨b', o' + 2, none⟩ = some (.int .i64 l) ∧ bA < B ∧ b' < B := by
  obtain ⟨a, b, l, he, h1, h2, h3, h4, h5⟩ := street_row hv hk
  obtain ⟨bA, oA, R, c1, hA, hlt, hcell, _, ho⟩ := h.open hk
  rw [he] at hcell ho
  obtain ⟨b', o', rfl, hb', hc'⟩ := ho.open (by simp)
  have q0 := ints_at hc' (show 0 < [(a : Int), (b : Int), (l : Int)].length by simp)
  have q1 := ints_at hc' (show 1 < [(a : Int), (b : Int), (l : Int)].length by simp)
  have q2 := ints_at hc' (show 2 < [(a : Int), (b : Int), (l : Int)].length by simp)
  simp only [List.getElem_cons_zero, List.getElem_cons_succ, Nat.add_zero] at q0 q1 q2
  exact ⟨a, b, l, bA, oA, b', o', c1, he, h5, ⟨h1, h2, h3, h4⟩, hA, hcell, q0, q1, q2, hlt, hb'⟩

theorem cell_keep {B : Nat} {w w' : World} {b off : Nat} {v : Value} (q : Below B w w') (hb : b < B) (h : w.cell? ⟨b, off, none⟩ = some v) : w'.cell? ⟨b, off, none⟩ = some v := by
  rw [q.cell (p := ⟨b, off, none⟩) hb]; exact h
theorem tab_more (k : Nat) (f : Nat → Int) : tab (k + 1) f = tab k f ++ [f k] := by simp [tab, List.range_succ]
def rowsTo (n i : Nat) (D : Nat → Nat → Int) : List (List Int) := (List.range i).map fun j => tab n (D j)
theorem rowsTo_more (n i : Nat) (D : Nat → Nat → Int) : rowsTo n (i + 1) D = rowsTo n i D ++ [tab n (D i)] := by simp [rowsTo, List.range_succ]
theorem rowsTo_len (n i : Nat) (D : Nat → Nat → Int) : (rowsTo n i D).length = i := by simp [rowsTo]
def unitD : Nat → Nat → Int := fun i k => if i = k then 0 else -1
theorem below_drewT (w : World) : Below w.heap.size w w.drew := ⟨rfl, rfl, rfl, Nat.le_refl _, fun _ _ => rfl⟩
def gRes (w0 : World) (V : List (List Int)) (e : Ending) (w' : World) : Prop := ∃ A' c', e = .returned (.slice A' V.length c') ∧ V.length ≤ c' ∧ MGrid w' w0.heap.size w'.heap.size A' V ∧ Below w0.heap.size w0 w'
theorem own_row_cells {w : World} {base n c : Nat} {A : Option Addr} {xs : List Int} (h : w.ownsRow base 3 1 (.slice A n c) n (xs.map (Value.int .i64))) : OwnInts w base w.heap.size A xs := by
  obtain ⟨A', c', hv, _, ho⟩ := own_of_row h
  simp only [Value.slice.injEq] at hv
  obtain ⟨rfl, _, _⟩ := hv
  exact ho
theorem Fw.less {n m : Nat} {ss : List St} {M : Int} {dn dn' : Nat → Nat → Prop} {D : Nat → Nat → Int} (h : Fw n ss m M dn D) (hd : ∀ i k, i < n → k < n → dn' i k → dn i k) : Fw n ss m M dn' D := fun i k hi hk => by
  obtain ⟨h1, h2, h3, h4, h5, h6⟩ := h i k hi hk
  exact ⟨h1, h2, h3, fun hh => h4 (hd i k hi hk hh), h5, h6⟩
theorem below_drew {B : Nat} {a w : World} (h : Below B a w) : Below B a w.drew := ⟨h.os, h.tape, h.output, h.size, h.block⟩
def bnd (m : Nat) : Int := ((20 * 2 ^ m : Nat) : Int)
theorem bnd_next (m : Nat) : bnd (m + 1) = 2 * bnd m := by unfold bnd; rw [Nat.pow_succ]; push_cast; omega
theorem bnd_le {m : Nat} (h : m ≤ 5) : bnd m ≤ 640 := by
  unfold bnd
  have := Nat.pow_le_pow_right (n := 2) (by omega) h
  omega
end Go.Proofs.Ytmbpcilgjolaeaa
