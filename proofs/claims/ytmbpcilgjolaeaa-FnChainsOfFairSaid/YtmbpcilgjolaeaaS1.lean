/- Powers and rows: contracts of spec. No condition. -/
import Derived.Test.YtmbpcilgjolaeaaS0
import Derived.Test.YtmbpcilgjolaeaaA1
import Derived.Test.YtmbpcilgjolaeaaRows
namespace Go.Proofs.Ytmbpcilgjolaeaa
open Go.RowKit
end Go.Proofs.Ytmbpcilgjolaeaa
