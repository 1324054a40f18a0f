/- Marks in rows of rows. No condition. -/
import Derived.Test.YtempfagjbpnlcaaG1
namespace Go.Proofs.Ytempfagjbpnlcaa
open Go.RowKit

/-- Blocks from base on and below B may have been written, and new ones. -/
def WroteIn (base B : Nat) (w w' : World) : Prop :=
  w'.os = w.os ∧ w'.tape = w.tape ∧ w'.output = w.output ∧ w.heap.size ≤ w'.heap.size ∧ ∀ i, i < w.heap.size → (i < base ∨ B ≤ i) → w'.heap[i]? = w.heap[i]?
section
variable {w w' w'' : World} {base base' B B' b0 B0 : Nat} {A : Option Addr} {xs : List Value} {rs : List (List Int)} {row : Option Nat}
theorem WroteIn.refl (w : World) (base B : Nat) : WroteIn base B w w := ⟨rfl, rfl, rfl, Nat.le_refl _, fun _ _ _ => rfl⟩
theorem WroteIn.trans (h : WroteIn base B w w') (k : WroteIn base B w' w'') : WroteIn base B w w'' :=
  ⟨k.1.trans h.1, k.2.1.trans h.2.1, k.2.2.1.trans h.2.2.1, Nat.le_trans h.2.2.2.1 k.2.2.2.1, fun i hi hr => (k.2.2.2.2 i (Nat.lt_of_lt_of_le hi h.2.2.2.1) hr).trans (h.2.2.2.2 i hi hr)⟩
theorem Wrote.wide (h : Wrote b0 B0 w w') (h1 : base ≤ b0) (h2 : B0 ≤ B) : WroteIn base B w w' := by
  obtain ⟨row, hg, hr⟩ := h
  exact ⟨hg.os, hg.tape, hg.output, hg.size, fun i hi hib => hg.block i hi (fun e => by have := hr i e.symm; omega)⟩
theorem WroteIn.size (h : WroteIn base B w w') : w.heap.size ≤ w'.heap.size := h.2.2.2.1
theorem WroteIn.below (h : WroteIn b0 B0 w w') (hB : B ≤ b0) (hBw : B ≤ w.heap.size) : Below B w w' :=
  ⟨h.1, h.2.1, h.2.2.1, h.2.2.2.1, fun i hi => h.2.2.2.2 i (by omega) (.inl (by omega))⟩
theorem Own.keptIn (h : Own w base B A xs) (hB : B ≤ w.heap.size) (hg : WroteIn b0 B0 w w') (hne : xs ≠ [] → ∀ b o, A = some ⟨b, o, none⟩ → base ≤ b + 1 → b < B → b < b0 ∨ B0 ≤ b) : Own w' base B A xs := by
  rcases h with h | ⟨b, o, rfl, h0, hlt, hc, hf⟩
  · exact .inl h
  · by_cases hx : xs = []
    · exact .inl hx
    · have hb := hg.2.2.2.2 b (by omega) (hne hx b o rfl h0 hlt)
      exact .inr ⟨b, o, rfl, h0, hlt, fun j u hu => (World.cell?_of_block (a := ⟨b, o + j, none⟩) hb).trans (hc j u hu), fun h j => (World.frozen?_of_block (a := ⟨b, j, none⟩) hb).trans (hf h j)⟩
theorem WroteIn.apart (hw : WroteIn b0 B0 w w') (h : Own w (base + 1) B A xs) (hB : B ≤ w.heap.size) (hlt : B0 ≤ base) : Own w' (base + 1) B A xs :=
  h.keptIn hB hw (fun _ _ _ _ _ _ => .inr (by omega))
theorem WroteIn.elder (hw : WroteIn b0 B0 w w') (h : Own w base B A xs) (hB : B ≤ w.heap.size) (hlt : B ≤ b0) : Own w' base B A xs :=
  h.keptIn hB hw (fun _ _ _ _ _ _ => .inl (by omega))
theorem WroteIn.gridElder (hw : WroteIn b0 B0 w w') (h : Grid w base B A rs) (hB : B ≤ w.heap.size) (hlt : B ≤ b0) : Grid w' base B A rs := by
  obtain ⟨hs, h1, h2⟩ := h
  refine ⟨hs, hw.elder h1 hB hlt, h2.1, fun i hi => ?_⟩
  obtain ⟨R, c, h3, h4, h5⟩ := h2.2 i hi
  exact ⟨R, c, h3, h4, hw.elder h5 hB hlt⟩

/-- A row of its own block alone. -/
theorem Own.tight {b o : Nat} (h : Own w (base + 1) B (some ⟨b, o, none⟩) xs) : Own w (b + 1) (b + 1) (some ⟨b, o, none⟩) xs := by
  rcases h with h | ⟨b', o', hA, h0, hlt, hc, hf⟩
  · exact .inl h
  · simp only [Option.some.injEq, Addr.mk.injEq, and_true] at hA
    obtain ⟨rfl, rfl⟩ := hA
    exact .inr ⟨b, o, rfl, by omega, by omega, hc, fun _ => hf (by omega)⟩
theorem Own.loose {b o : Nat} (h : Own w (b + 1) (b + 1) (some ⟨b, o, none⟩) xs) (h1 : base ≤ b) (h2 : b < B) : Own w (base + 1) B (some ⟨b, o, none⟩) xs := by
  rcases h with h | ⟨b', o', hA, h0, hlt, hc, hf⟩
  · exact .inl h
  · simp only [Option.some.injEq, Addr.mk.injEq, and_true] at hA
    obtain ⟨rfl, rfl⟩ := hA
    exact .inr ⟨b, o, rfl, by omega, h2, hc, fun _ => hf (by omega)⟩
end

/-- Rows of the call's own, no two of which share memory. -/
def MGrid (w : World) (base B : Nat) (A : Option Addr) (rs : List (List Int)) : Prop :=
  ∃ hs, Own w (base + 1) B A hs ∧ GridAt w (base + 1) B hs rs ∧ GridApart (A.map (·.block)) hs rs
section
variable {w w' : World} {base base' B B' b0 B0 : Nat} {A : Option Addr} {rs : List (List Int)}
theorem MGrid.grid (h : MGrid w base B A rs) : Grid w (base + 1) B A rs := by
  obtain ⟨hs, h1, h2, _⟩ := h
  exact ⟨hs, h1, h2⟩
theorem MGrid.row (h : MGrid w base B A rs) : Grid w 0 B A rs := h.grid.row
theorem MGrid.below (h : MGrid w base B A rs) (hb : Below B w w') : MGrid w' base B A rs := by
  obtain ⟨hs, h1, h2, h3⟩ := h
  exact ⟨hs, h1.below hb, h2.below hb, h3⟩
theorem MGrid.keep (h : MGrid w base B A rs) (hB : B ≤ w.heap.size) (hb : Below w.heap.size w w') : MGrid w' base B A rs := h.below (hb.mono hB)
theorem MGrid.more (h : MGrid w base B A rs) (hB : B ≤ B') : MGrid w base B' A rs := by
  obtain ⟨hs, h1, h2, h3⟩ := h
  exact ⟨hs, h1.more hB, h2.more hB, h3⟩
theorem MGrid.nil (w : World) (base B : Nat) (A : Option Addr) : MGrid w base B A [] := ⟨[], .inl rfl, ⟨rfl, fun i hi => by simp at hi⟩, ⟨fun i j hi => by simp at hi, fun i hi => by simp at hi⟩⟩
theorem WroteIn.mgridApart (hw : WroteIn b0 B0 w w') (h : MGrid w base B A rs) (hB : B ≤ w.heap.size) (hlt : B0 ≤ base) : MGrid w' base B A rs := by
  obtain ⟨hs, h1, h2, h3⟩ := h
  refine ⟨hs, hw.apart h1 hB hlt, ⟨h2.1, fun i hi => ?_⟩, h3⟩
  obtain ⟨R, c, h4, h5, h6⟩ := h2.2 i hi
  exact ⟨R, c, h4, h5, hw.apart h6 hB hlt⟩
theorem WroteIn.mgridElder (hw : WroteIn b0 B0 w w') (h : MGrid w base B A rs) (hB : B ≤ w.heap.size) (hlt : B ≤ b0) : MGrid w' base B A rs := by
  obtain ⟨hs, h1, h2, h3⟩ := h
  refine ⟨hs, hw.elder h1 hB hlt, ⟨h2.1, fun i hi => ?_⟩, h3⟩
  obtain ⟨R, c, h4, h5, h6⟩ := h2.2 i hi
  exact ⟨R, c, h4, h5, hw.elder h6 hB hlt⟩
end

theorem apart_marks {g : Option Nat} {hs : List Value} {rs ms : List (List Int)} (h : GridApart g hs rs) (hl : ms.length = rs.length) (he : ∀ (i : Nat) (hi : i < rs.length), (ms[i]'(by omega)).length = rs[i].length) : GridApart g hs ms := by
  have hne : ∀ (i : Nat) (hi : i < rs.length), (ms[i]'(by omega)) ≠ [] → rs[i] ≠ [] := fun i hi h1 h2 => by
    have := he i hi; rw [h2] at this; exact h1 (List.eq_nil_of_length_eq_zero this)
  refine ⟨fun i j hi hj A B c d hij h1 h2 h3 h4 => ?_, fun i hi A c h1 h3 => ?_⟩
  · rw [he i (by omega)] at h3
    rw [he j (by omega)] at h4
    exact h.1 i j (by omega) (by omega) A B c d hij (hne i (by omega) h1) (hne j (by omega) h2) h3 h4
  · rw [he i (by omega)] at h3
    exact h.2 i (by omega) A c (hne i (by omega) h1) h3
end Go.Proofs.Ytempfagjbpnlcaa
