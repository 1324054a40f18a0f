/- Powers and rows: contracts of spec. No condition. -/
import Derived.Test.YtekckjjfggclnaaS0
import Derived.Test.YtekckjjfggclnaaA1
import Derived.Test.YtekckjjfggclnaaRows
namespace Go.Proofs.Ytekckjjfggclnaa
open Go.RowKit
end Go.Proofs.Ytekckjjfggclnaa
