/- Powers and rows: contracts of spec. No condition. -/
import Derived.Test.YtookdmdlpglbcabS0
import Derived.Test.YtookdmdlpglbcabA1
import Derived.Test.YtookdmdlpglbcabRows
namespace Go.Proofs.Ytookdmdlpglbcab
open Go.RowKit
end Go.Proofs.Ytookdmdlpglbcab
