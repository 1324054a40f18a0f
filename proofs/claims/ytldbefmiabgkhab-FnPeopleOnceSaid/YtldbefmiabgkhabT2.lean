/- Answers: spec.validThreads, impl.areAnswers. No condition. -/
import Derived.Test.YtldbefmiabgkhabT0
import Derived.Test.YtldbefmiabgkhabOwn
namespace Go.Proofs.Ytldbefmiabgkhab
open Go.RowKit

theorem inRange_is {x lo hi : Int} {b : Bool} (h : inR x lo hi = b) (X : World) : Calls Try.prog 28 #[.int .i64 x, .int .i64 lo, .int .i64 hi] X fun e w' => e = .returned (.bool b) ∧ X = w' := by
  rw [← h]; exact inRange_any x lo hi X
end Go.Proofs.Ytldbefmiabgkhab
