/- Rules in memory. No condition. -/
import Derived.Test.YtamkaodbegjfpaaDoorQ1
namespace Go.Proofs.YtamkaodbegjfpaaDoor
open Go.RowKit
end Go.Proofs.YtamkaodbegjfpaaDoor
