/- Texts that are nearly right. No condition. -/
import Derived.Test.YtphfolmhlcmbjaaDoorRs
import Derived.Deep.RegionWith
namespace Go.Proofs.YtphfolmhlcmbjaaDoor
open Go.RowKit
end Go.Proofs.YtphfolmhlcmbjaaDoor
