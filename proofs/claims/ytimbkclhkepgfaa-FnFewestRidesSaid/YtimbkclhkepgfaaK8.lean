/- Coaches: spec.LatestTo. No condition. -/
import Derived.Test.YtimbkclhkepgfaaK7
namespace Go.Proofs.Ytimbkclhkepgfaa
open Go.RowKit
end Go.Proofs.Ytimbkclhkepgfaa
