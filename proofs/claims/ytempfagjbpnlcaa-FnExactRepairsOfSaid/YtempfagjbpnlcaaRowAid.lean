/- How arguments are opened. No condition. -/
import Derived.Test.YtempfagjbpnlcaaAid
import Derived.ProofKit
import Derived.OpenShut
import Derived.ShutString
import Derived.ChangeOld
namespace Go.Proofs.Ytempfagjbpnlcaa
open Go.RowKit
open Go.ChangeShapes Go.WideShapes Go.ChangeAt

/-- A slice of numbers that came in, as the walks take it. -/
theorem ints_of {H : Type} {W : World} {k : IntKind} {a0 : Option Addr} {len0 cap0 base : Nat} {sp : Nat → Bool} {x : DataW H × List MemPlace}
    (h : ((Value.slice a0 len0 cap0).cells.toList = [.slice none 0 0] ∧ x = (.nil, [])) ∨
      ∃ (a : Addr) (len cap : Nat) (zs : List Int), (Value.slice a0 len0 cap0).cells.toList = [.slice (some a) len cap] ∧ base ≤ a.block ∧ len ≤ cap ∧ cap ≤ maxLen ∧ zs.length = (if sp a.block then cap else len) ∧
      x = (.slice (lits k (zs.take len)) (lits k (zs.drop len)), MemPlace.row a zs.length) ∧
      (∀ i, i < zs.length → W.cell? (a.add i) = some (.int k (zs.getD i 0))) ∧ (∀ n ∈ zs, (Lit.int k n).wf = true)) :
    ∃ zs : List Int, zs.length = len0 ∧ Own W 0 W.heap.size a0 (zs.map (Value.int k)) ∧ (zs.length ≤ cap0 ∧ cap0 ≤ maxLen ∧ ∀ z ∈ zs, (Lit.int k z).wf = true) := by
  rcases h with ⟨hcs, _⟩ | ⟨⟨b, off, spot⟩, l, c, zs, hcs, _, hl, hm, hz, _, hcell, hwz⟩
  · simp [Value.cells] at hcs
    obtain ⟨rfl, rfl, rfl⟩ := hcs
    exact ⟨[], rfl, .inl rfl, by simp, by simp, by simp⟩
  · simp [Value.cells] at hcs
    obtain ⟨rfl, rfl, rfl⟩ := hcs
    have hle : len0 ≤ zs.length := by rw [hz]; split <;> omega
    refine ⟨zs.take len0, by simp; omega, ?_, by simp; omega, hm, fun z hzz => hwz z (List.mem_of_mem_take hzz)⟩
    by_cases h0 : len0 = 0
    · subst h0; exact .inl (by simp)
    · have hc0 := hcell 0 (by omega)
      have hspot : spot = none := by simpa [Addr.add] using World.cell?_spot hc0
      subst hspot
      refine .inr ⟨b, off, rfl, by omega, World.block_lt_of_cell? W _ hc0, fun j u hu => ?_, fun h => by omega⟩
      have hj : j < len0 := by
        have := (List.getElem?_eq_some_iff.1 hu).1
        simp at this; omega
      have := hcell j (by omega)
      rw [Addr.add_lit] at this
      rw [this, ← hu, List.getElem?_map, List.getElem?_take, if_pos hj, List.getElem?_eq_getElem (by omega)]
      simp [List.getD, List.getElem?_eq_getElem (show j < zs.length by omega)]
end Go.Proofs.Ytempfagjbpnlcaa
