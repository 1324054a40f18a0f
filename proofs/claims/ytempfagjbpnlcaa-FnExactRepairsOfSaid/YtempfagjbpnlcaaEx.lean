/- Small words for the exact laws. No condition. -/
import Derived.Test.YtempfagjbpnlcaaG2
import Derived.Test.YtempfagjbpnlcaaA2
namespace Go.Proofs.Ytempfagjbpnlcaa
open Go.RowKit
theorem len_le_total {rs : List (List Int)} {r : List Int} (h : r ∈ rs) : r.length ≤ total rs := by
  obtain ⟨i, hi, rfl⟩ := List.getElem_of_mem h
  exact row_le_total hi
theorem int_bd {z : Int} (h : (Lit.int .i64 z).wf = true) : -9223372036854775808 ≤ z ∧ z ≤ 9223372036854775807 := by
  simp only [Lit.wf] at h
  rw [show IntKind.i64.min = -9223372036854775808 from by decide, show IntKind.i64.max = 9223372036854775807 from by decide] at h
  simpa using h
theorem drewBelow (w : World) (n : Nat) : Below w.heap.size w (w.drewN n) := below_drewN (Below.refl _ _) n
theorem eqISelf (xs : List Int) : eqI xs xs = true := by simp [eqI]
end Go.Proofs.Ytempfagjbpnlcaa
