/- laws.toIntS. No condition. -/
import Derived.Test.YtempfagjbpnlcaaA2
namespace Go.Proofs.Ytempfagjbpnlcaa
open Go.RowKit
end Go.Proofs.Ytempfagjbpnlcaa
