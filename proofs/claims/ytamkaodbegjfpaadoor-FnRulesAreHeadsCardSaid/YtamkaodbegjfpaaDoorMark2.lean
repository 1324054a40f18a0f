/- Marks, and which block they write. No condition. -/
import Derived.Test.YtamkaodbegjfpaaDoorMark
import Derived.Test.YtamkaodbegjfpaaDoorDr
namespace Go.Proofs.YtamkaodbegjfpaaDoor
open Go.RowKit

theorem g_set {a w : World} {b : Nat} (h : a.grownBy w (some b)) (o : Nat) (v : Value) : a.grownBy (w.setCell ⟨b, o, none⟩ v) (some b) :=
  ⟨h.os, h.tape, h.output, by simp [World.setCell]; exact h.size, fun i hi hne => by rw [Below.heap_setCell _ _ _ _ (fun e => hne (by rw [e]))]; exact h.block i hi hne⟩

/-- A row of the call's own, behind a call that wrote an older block. -/
theorem Own.apart {w w' : World} {base B : Nat} {A : Option Addr} {xs : List Value} {row : Option Nat} (h : Own w (base + 1) B A xs) (hB : B ≤ w.heap.size) (hg : w.grownBy w' row) (hr : ∀ i, row = some i → i < base) : Own w' (base + 1) B A xs := by
  rcases h with h | ⟨b, o, rfl, h0, hlt, hc, hf⟩
  · exact .inl h
  · have hb := hg.block b (by omega) (fun e => by have := hr b e.symm; omega)
    exact .inr ⟨b, o, rfl, h0, hlt, fun j u hu => (World.cell?_of_block (a := ⟨b, o + j, none⟩) hb).trans (hc j u hu), fun h j => (World.frozen?_of_block (a := ⟨b, j, none⟩) hb).trans (hf h j)⟩
/-- A row that is older than the block that a call wrote. -/
theorem Own.elder {w w' : World} {base B : Nat} {A : Option Addr} {xs : List Value} {row : Option Nat} (h : Own w base B A xs) (hB : B ≤ w.heap.size) (hg : w.grownBy w' row) (hr : ∀ i, row = some i → B ≤ i) : Own w' base B A xs := by
  rcases h with h | ⟨b, o, rfl, h0, hlt, hc, hf⟩
  · exact .inl h
  · have hb := hg.block b (by omega) (fun e => by have := hr b e.symm; omega)
    exact .inr ⟨b, o, rfl, h0, hlt, fun j u hu => (World.cell?_of_block (a := ⟨b, o + j, none⟩) hb).trans (hc j u hu), fun h j => (World.frozen?_of_block (a := ⟨b, j, none⟩) hb).trans (hf h j)⟩
/-- One block from base on and below B was written, and new ones. -/
def Wrote (base B : Nat) (w w' : World) : Prop := ∃ row, w.grownBy w' row ∧ ∀ i, row = some i → base ≤ i ∧ i < B
theorem Wrote.apart {w w' : World} {b0 B0 base B : Nat} {A : Option Addr} {xs : List Value} (hw : Wrote b0 B0 w w') (h : Own w (base + 1) B A xs) (hB : B ≤ w.heap.size) (hlt : B0 ≤ base) : Own w' (base + 1) B A xs := by
  obtain ⟨row, hg, hr⟩ := hw
  exact h.apart hB hg (fun i hi => by have := hr i hi; omega)
theorem Wrote.elder {w w' : World} {b0 B0 base B : Nat} {A : Option Addr} {xs : List Value} (hw : Wrote b0 B0 w w') (h : Own w base B A xs) (hB : B ≤ w.heap.size) (hlt : B ≤ b0) : Own w' base B A xs := by
  obtain ⟨row, hg, hr⟩ := hw
  exact h.elder hB hg (fun i hi => by have := hr i hi; omega)
theorem Wrote.below {w w' : World} {b0 B0 B : Nat} (hw : Wrote b0 B0 w w') (hB : B ≤ b0) (hBw : B ≤ w.heap.size) : Below B w w' := by
  obtain ⟨row, hg, hr⟩ := hw
  exact ⟨hg.os, hg.tape, hg.output, hg.size, fun i hi => hg.block i (by omega) (fun e => by have := hr i e.symm; omega)⟩
theorem Wrote.size {w w' : World} {b0 B0 : Nat} (hw : Wrote b0 B0 w w') : w.heap.size ≤ w'.heap.size := by
  obtain ⟨row, hg, _⟩ := hw
  exact hg.size

/-- A row stays behind a call that changed nothing old. -/
theorem Own.keep {w w' : World} {base B : Nat} {A : Option Addr} {xs : List Value} (h : Own w base B A xs) (hB : B ≤ w.heap.size) (hb : Below w.heap.size w w') : Own w' base B A xs := h.below (hb.mono hB)
end Go.Proofs.YtamkaodbegjfpaaDoor
