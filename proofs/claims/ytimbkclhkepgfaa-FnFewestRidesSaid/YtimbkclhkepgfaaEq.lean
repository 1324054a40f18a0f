/- laws.equalInts. No condition. -/
import Derived.Test.YtimbkclhkepgfaaA2
namespace Go.Proofs.Ytimbkclhkepgfaa
open Go.RowKit

theorem eqI_refl' (xs : List Int) : eqI xs xs = true := by simp [eqI]
end Go.Proofs.Ytimbkclhkepgfaa
