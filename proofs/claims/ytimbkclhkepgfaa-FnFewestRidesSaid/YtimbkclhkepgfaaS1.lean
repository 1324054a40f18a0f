/- Powers and rows: contracts of spec. No condition. -/
import Derived.Test.YtimbkclhkepgfaaS0
import Derived.Test.YtimbkclhkepgfaaA1
import Derived.Test.YtimbkclhkepgfaaRows
namespace Go.Proofs.Ytimbkclhkepgfaa
open Go.RowKit
end Go.Proofs.Ytimbkclhkepgfaa
