/- Contracts of this seat. No condition. -/
import Derived.Test.YtamkaodbegjfpaaDoorA3
namespace Go.Proofs.YtamkaodbegjfpaaDoor
open Go.RowKit
end Go.Proofs.YtamkaodbegjfpaaDoor
