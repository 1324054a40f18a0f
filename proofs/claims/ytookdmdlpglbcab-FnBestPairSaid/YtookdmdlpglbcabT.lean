/- laws.toIntS. No condition. -/
import Derived.Test.YtookdmdlpglbcabA2
namespace Go.Proofs.Ytookdmdlpglbcab
open Go.RowKit
end Go.Proofs.Ytookdmdlpglbcab
