/- Texts that are nearly right. No condition. -/
import Derived.Test.YtamkaodbegjfpaaDoorRs
import Derived.Deep.RegionWith
namespace Go.Proofs.YtamkaodbegjfpaaDoor
open Go.RowKit
end Go.Proofs.YtamkaodbegjfpaaDoor
