/- Contracts of this seat. No condition. -/
import Derived.Test.YtphfolmhlcmbjaaDoorA3
namespace Go.Proofs.YtphfolmhlcmbjaaDoor
open Go.RowKit
end Go.Proofs.YtphfolmhlcmbjaaDoor
