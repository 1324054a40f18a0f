/- Rows: contracts of impl. No condition. -/
import Derived.Test.YtempfagjbpnlcaaS3
import Derived.Test.YtempfagjbpnlcaaShelf
namespace Go.Proofs.Ytempfagjbpnlcaa
open Go.RowKit
end Go.Proofs.Ytempfagjbpnlcaa
