/- laws.toIntS. No condition. -/
import Derived.Test.YtbbciiolpocfjaaA2
namespace Go.Proofs.Ytbbciiolpocfjaa
open Go.RowKit
end Go.Proofs.Ytbbciiolpocfjaa
