/- laws.equalInts. No condition. -/
import Derived.Test.YtookdmdlpglbcaaA2
namespace Go.Proofs.Ytookdmdlpglbcaa
open Go.RowKit

theorem eqI_refl' (xs : List Int) : eqI xs xs = true := by simp [eqI]
end Go.Proofs.Ytookdmdlpglbcaa
