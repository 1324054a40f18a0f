/- OrderBy: spec. No condition. -/
import Derived.Test.YtlgeoilnjgojnaaO0
import Derived.Test.YtlgeoilnjgojnaaH9
import Derived.Test.YtlgeoilnjgojnaaS9
namespace Go.Proofs.Ytlgeoilnjgojnaa
open Go.RowKit

/-- Does a house come ahead of another one. -/
def earl (a b : Int × Int) (loop : Bool) : Bool := if loop = false then decide (a.1 < b.1) else if a.2 = b.2 then (if a.2 = 0 then decide (a.1 < b.1) else decide (b.1 < a.1)) else decide (a.2 < b.2)

def ltH (rs : List (List Int)) (loop : Bool) (a b : Int) : Bool := earl (hAt rs a) (hAt rs b) loop

theorem getD_at {l : List Int} {k : Nat} (h : k < l.length) : l[k]? = some (l.getD k 0) := by simp [List.getD, List.getElem?_eq_getElem h]
end Go.Proofs.Ytlgeoilnjgojnaa
