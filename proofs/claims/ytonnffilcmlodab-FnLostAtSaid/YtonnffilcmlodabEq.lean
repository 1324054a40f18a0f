/- laws.equalInts. No condition. -/
import Derived.Test.YtonnffilcmlodabA2
namespace Go.Proofs.Ytonnffilcmlodab
open Go.RowKit

theorem eqI_refl' (xs : List Int) : eqI xs xs = true := by simp [eqI]
end Go.Proofs.Ytonnffilcmlodab
