/- Powers and rows: contracts of spec. No condition. -/
import Derived.Test.YtookdmdlpglbcaaS0
import Derived.Test.YtookdmdlpglbcaaA1
import Derived.Test.YtookdmdlpglbcaaRows
namespace Go.Proofs.Ytookdmdlpglbcaa
open Go.RowKit
end Go.Proofs.Ytookdmdlpglbcaa
