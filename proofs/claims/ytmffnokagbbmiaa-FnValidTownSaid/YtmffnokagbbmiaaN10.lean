/- Cells that are set one by one; impl.oddsIn. No condition. -/
import Derived.Test.YtmffnokagbbmiaaN9
namespace Go.Proofs.Ytmffnokagbbmiaa
open Go.RowKit

/-- The first n cells of a block, which may be written. -/
def CellsAt (w : World) (base g n : Nat) (f : Nat → Value) : Prop := base ≤ g ∧ g < w.heap.size ∧ (∀ i, i < n → w.cell? ⟨g, i, none⟩ = some (f i)) ∧ ∀ j, w.frozen? ⟨g, j, none⟩ = false
section
variable {w w' : World} {base g n : Nat} {f : Nat → Value}
theorem CellsAt.keep (h : CellsAt w base g n f) (hb : Below w.heap.size w w') : CellsAt w' base g n f := by
  obtain ⟨h1, h2, h3, h4⟩ := h
  have := hb.size
  exact ⟨h1, by omega, fun i hi => by rw [hb.cell (p := ⟨g, i, none⟩) h2]; exact h3 i hi, fun j => by rw [hb.frozen (p := ⟨g, j, none⟩) h2]; exact h4 j⟩
theorem CellsAt.congr {f' : Nat → Value} (h : CellsAt w base g n f) (he : ∀ i, i < n → f' i = f i) : CellsAt w base g n f' := ⟨h.1, h.2.1, fun i hi => by rw [he i hi]; exact h.2.2.1 i hi, h.2.2.2⟩
theorem CellsAt.put (h : CellsAt w base g n f) {i : Nat} (hi : i < n) (v : Value) : CellsAt (w.setCell ⟨g, i, none⟩ v) base g n (fun k => if k = i then v else f k) := by
  obtain ⟨h1, h2, h3, h4⟩ := h
  have hsz : (w.setCell ⟨g, i, none⟩ v).heap.size = w.heap.size := by simp [World.setCell]
  refine ⟨h1, by omega, fun k hk => ?_, fun j => by rw [World.frozen?_setCell]; exact h4 j⟩
  show _ = some (if k = i then v else f k)
  by_cases e : k = i
  · subst e
    rw [if_pos rfl, World.cell?_setCell_same w _ _ (h3 k hk)]
  · rw [if_neg e, World.cell?_setCell_other w _ _ _ (by intro e2; injection e2 with e3 e4; omega)]
    exact h3 k hk
theorem CellsAt.other (h : CellsAt w base g n f) {b i : Nat} (hb : b ≠ g) (v : Value) : CellsAt (w.setCell ⟨b, i, none⟩ v) base g n f := by
  obtain ⟨h1, h2, h3, h4⟩ := h
  have hsz : (w.setCell ⟨b, i, none⟩ v).heap.size = w.heap.size := by simp [World.setCell]
  refine ⟨h1, by omega, fun k hk => ?_, fun j => by rw [World.frozen?_setCell]; exact h4 j⟩
  rw [World.cell?_setCell_other w _ _ _ (by intro e2; injection e2 with e3 e4; first | exact hb e3 | exact hb e3.symm)]
  exact h3 k hk
theorem CellsAt.of {xs : List Value} {e : TypeId} (h : w.heap[g]? = some (.cells xs.toArray e (0, 0))) (hb : base ≤ g) (hx : ∀ i, i < n → xs[i]? = some (f i)) : CellsAt w base g n f :=
  ⟨hb, lt_of_heap h, fun i hi => by rw [cell_of_row w _ _ _ _ _ h]; simpa using hx i hi, fun j => frozen_of_row _ _ _ _ _ h⟩
end

theorem rowLess {w : World} {base base' : Nat} {e : TypeId} {size n : Nat} {v : Value} {xs : List Value} (h : w.ownsRow base e size v n xs) (hb : base' ≤ base) : w.ownsRow base' e size v n xs := by
  obtain ⟨h1, h2⟩ := h
  refine ⟨h1, ?_⟩
  rcases h2 with h2 | ⟨g, cap, cur, h3, h4, h5⟩
  · exact .inl h2
  · exact .inr ⟨g, cap, cur, h3, by omega, h5⟩
theorem cells_apart {w w' : World} {base g n : Nat} {f : Nat → Value} {row : Option Nat} (h : CellsAt w base g n f) (hg : w.grownBy w' row) (hr : ∀ i, row = some i → i ≠ g) : CellsAt w' base g n f := by
  obtain ⟨h1, h2, h3, h4⟩ := h
  have hb : w'.heap[g]? = w.heap[g]? := hg.block g h2 (fun e => hr g e.symm rfl)
  refine ⟨h1, by have := hg.size; omega, fun i hi => ?_, fun j => ?_⟩
  · rw [World.cell?_of_block hb]; exact h3 i hi
  · rw [World.frozen?_of_block hb]; exact h4 j
end Go.Proofs.Ytmffnokagbbmiaa
