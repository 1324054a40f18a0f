/- A slice of rows that came in, opened. No condition. -/
import Derived.Test.YtonnffilcmlodaaRowAid
import Derived.Test.YtonnffilcmlodaaG1
import Derived.Deep.Matrix
import Derived.ChangeArms
namespace Go.Proofs.Ytonnffilcmlodaa
open Go.RowKit
open Go.ChangeShapes Go.WideShapes Go.ChangeAt Go.Deep

theorem rows_of {H : Type} {enc : TypeId × Value → H} {P : Program} {W : World} {fuel len0 cap0 : Nat} {held : Bool} {a0 : Option Addr} {t e q : TypeId} {x : DataW H × List MemPlace}
    (ht : P.underlying t = some (.slice e)) (he : P.underlying e = some (.slice q)) (hq : P.underlying q = some (.int .i64)) (ce : P.cellsOf e = 1) (cq : P.cellsOf q = 1)
    (h : DataW.trod enc P W 0 (fun _ => true) held fuel t (Value.slice a0 len0 cap0).cells.toList = some x) :
    ∃ rs : List (List Int), rs.length = len0 ∧ Grid W 0 W.heap.size a0 rs ∧ (rs.length ≤ cap0 ∧ cap0 ≤ maxLen ∧ ∀ r ∈ rs, r.length ≤ maxLen ∧ ∀ z ∈ r, (Lit.int .i64 z).wf = true) := by
  rcases open_int_rows ht he hq ce cq h with ⟨hcs, _⟩ | ⟨⟨b, off, spot⟩, l, c, A, L, C, Z, hcs, _, hl, hm, _, hx⟩
  · simp [Value.cells] at hcs
    obtain ⟨rfl, rfl, rfl⟩ := hcs
    exact ⟨[], rfl, Grid.nil _ _ _ _, by simp, by simp, by simp⟩
  · simp [Value.cells] at hcs
    obtain ⟨rfl, rfl, rfl⟩ := hcs
    have hlen : ∀ i, i < len0 → ((Z i).take (L i)).length = L i := fun i hi => by
      obtain ⟨_, h2, _, h4, _⟩ := hx i (by omega)
      rw [List.length_take]; omega
    refine ⟨(List.range len0).map fun i => (Z i).take (L i), by simp, ?_, by simpa using hl, hm, ?_⟩
    · by_cases h0 : len0 = 0
      · subst h0; simpa using Grid.nil W 0 W.heap.size _
      · have hc0 := (hx 0 (by omega)).1
        have hspot : spot = none := by simpa [Addr.add] using World.cell?_spot hc0
        subst hspot
        have hblt := World.block_lt_of_cell? W _ hc0
        refine ⟨(List.range len0).map fun i => Value.slice (A i) (L i) (C i), .inr ⟨b, off, rfl, by omega, hblt, fun j u hu => ?_, fun h => by omega⟩, by simp, fun i hi => ?_⟩
        · have hj : j < len0 := by
            have := (List.getElem?_eq_some_iff.1 hu).1
            simpa using this
          have h1 := (hx j (by omega)).1
          rw [Addr.add_lit] at h1
          rw [h1, ← hu]
          simp [List.getElem?_map, List.getElem?_range hj]
        · have hi' : i < len0 := by simpa using hi
          obtain ⟨h1, h2, h3, h4, h5, h6, h7⟩ := hx i (by omega)
          refine ⟨A i, C i, ?_, ?_, ?_⟩
          · simp [List.getElem?_map, List.getElem?_range hi']; omega
          · simp only [List.getElem_map, List.getElem_range]; rw [hlen i hi']; exact h2
          · simp only [List.getElem_map, List.getElem_range]
            by_cases hL : L i = 0
            · exact .inl (by simp [hL])
            · cases hA : A i with
              | none => have := h6 hA; omega
              | some a' =>
                obtain ⟨_, hcell⟩ := h7 a' hA
                obtain ⟨b', o', s'⟩ := a'
                have hs0 := hcell 0 (by omega)
                have hsp : s' = none := by simpa [Addr.add] using World.cell?_spot hs0
                subst hsp
                refine .inr ⟨b', o', rfl, by omega, World.block_lt_of_cell? W _ hs0, fun j u hu => ?_, fun h => by omega⟩
                have hj : j < L i := by
                  have := (List.getElem?_eq_some_iff.1 hu).1
                  rw [List.length_map, hlen i hi'] at this
                  exact this
                have := hcell j (by omega)
                rw [Addr.add_lit] at this
                rw [this, ← hu, List.getElem?_map, List.getElem?_take, if_pos hj, List.getElem?_eq_getElem (by omega)]
                simp [List.getD, List.getElem?_eq_getElem (show j < (Z i).length by omega)]
    · intro r hr
      simp only [List.mem_map, List.mem_range] at hr
      obtain ⟨i, hi, rfl⟩ := hr
      obtain ⟨_, h2, h3, h4, h5, _⟩ := hx i (by omega)
      exact ⟨by rw [hlen i hi]; omega, fun z hz => h5 z (List.mem_of_mem_take hz)⟩
end Go.Proofs.Ytonnffilcmlodaa
