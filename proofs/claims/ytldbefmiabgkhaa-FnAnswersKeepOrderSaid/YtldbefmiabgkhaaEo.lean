/- A list is equal to itself. No condition. -/
import Derived.Test.YtldbefmiabgkhaaEq
import Derived.Test.YtldbefmiabgkhaaEx
namespace Go.Proofs.Ytldbefmiabgkhaa
open Go.RowKit

theorem equalInts_on (A B : Option Addr) (c d : Nat) (q : List Int) (w : World) (hx : Ints w w.heap.size A q) (hy : Ints w w.heap.size B q) (hl : q.length ≤ 1000000) :
    Calls Try.prog 31 #[.slice A q.length c, .slice B q.length d] w fun e w' => e = .returned (.bool true) ∧ Below w.heap.size w w' := by
  have h := equalInts_any A B c d q q w hx hy (by omega)
  rw [eqISelf] at h
  exact h.mono fun _ _ ⟨he, n, hw⟩ => ⟨he, by rw [hw]; exact drewBelow _ _⟩
end Go.Proofs.Ytldbefmiabgkhaa
