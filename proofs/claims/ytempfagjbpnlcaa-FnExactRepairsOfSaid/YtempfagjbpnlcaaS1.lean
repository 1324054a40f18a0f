/- Powers and rows: contracts of spec. No condition. -/
import Derived.Test.YtempfagjbpnlcaaS0
import Derived.Test.YtempfagjbpnlcaaA1
import Derived.Test.YtempfagjbpnlcaaRows
namespace Go.Proofs.Ytempfagjbpnlcaa
open Go.RowKit
end Go.Proofs.Ytempfagjbpnlcaa
