/- Rates: ValidRates on both sides. No condition. -/
import Derived.Test.YtekckjjfggclnaaU0
import Derived.Test.YtekckjjfggclnaaEx
import Derived.Test.YtekckjjfggclnaaG6
namespace Go.Proofs.Ytekckjjfggclnaa
open Go.RowKit
end Go.Proofs.Ytekckjjfggclnaa
