/- Rates: ValidRates on both sides. No condition. -/
import Derived.Test.YtjklnknlifpidaaU0
import Derived.Test.YtjklnknlifpidaaEx
import Derived.Test.YtjklnknlifpidaaG6
namespace Go.Proofs.Ytjklnknlifpidaa
open Go.RowKit
end Go.Proofs.Ytjklnknlifpidaa
