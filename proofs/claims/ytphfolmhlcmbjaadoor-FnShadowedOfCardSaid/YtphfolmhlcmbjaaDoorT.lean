/- laws.toIntS. No condition. -/
import Derived.Test.YtphfolmhlcmbjaaDoorA2
namespace Go.Proofs.YtphfolmhlcmbjaaDoor
open Go.RowKit
end Go.Proofs.YtphfolmhlcmbjaaDoor
