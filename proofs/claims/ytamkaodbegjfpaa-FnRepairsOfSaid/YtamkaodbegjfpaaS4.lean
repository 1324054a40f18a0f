/- Rows: contracts of impl. No condition. -/
import Derived.Test.YtamkaodbegjfpaaS3
import Derived.Test.YtamkaodbegjfpaaShelf
namespace Go.Proofs.Ytamkaodbegjfpaa
open Go.RowKit
end Go.Proofs.Ytamkaodbegjfpaa
