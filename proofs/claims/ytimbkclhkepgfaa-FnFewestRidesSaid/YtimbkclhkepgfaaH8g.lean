/- The head of a slice of rows. No condition. -/
import Derived.Test.YtimbkclhkepgfaaG6
namespace Go.Proofs.Ytimbkclhkepgfaa
open Go.RowKit

theorem Grid.take {w : World} {base B : Nat} {A : Option Addr} {rs : List (List Int)} (h : Grid w base B A rs) (m : Nat) : Grid w base B A (rs.take m) := by
  obtain ⟨hs, h1, h2⟩ := h
  refine ⟨hs.take m, h1.take m, by rw [List.length_take, List.length_take, h2.1], fun i hi => ?_⟩
  simp only [List.length_take] at hi
  obtain ⟨R, c, h3, h4, h5⟩ := h2.2 i (by omega)
  rw [List.getElem_take, List.getElem?_take, if_pos (by omega)]
  exact ⟨R, c, h3, h4, h5⟩

theorem slice_uptoR (b o n c j : Nat) (h : j ≤ c) (W : World) :
    (Instr.slice 23 (.slice (some ⟨b, o, none⟩) n c) none (some (.int .i64 (j : Int))) none).run Try.prog W = .ok (.slice (some ⟨b, o, none⟩) j c) W := by
  have h1 : (0 : Int) ≤ (j : Int) := by omega
  have h2 : (j : Int) ≤ (c : Int) := by omega
  go_simp
end Go.Proofs.Ytimbkclhkepgfaa
