/- Rates: ValidRates on both sides. No condition. -/
import Derived.Test.YtmffnokagbbmiaaU0
import Derived.Test.YtmffnokagbbmiaaEx
import Derived.Test.YtmffnokagbbmiaaG6
namespace Go.Proofs.Ytmffnokagbbmiaa
open Go.RowKit
end Go.Proofs.Ytmffnokagbbmiaa
