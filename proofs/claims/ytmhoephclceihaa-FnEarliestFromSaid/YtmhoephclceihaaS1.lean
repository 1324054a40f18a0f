/- Powers and rows: contracts of spec. No condition. -/
import Derived.Test.YtmhoephclceihaaS0
import Derived.Test.YtmhoephclceihaaA1
import Derived.Test.YtmhoephclceihaaRows
namespace Go.Proofs.Ytmhoephclceihaa
open Go.RowKit
end Go.Proofs.Ytmhoephclceihaa
