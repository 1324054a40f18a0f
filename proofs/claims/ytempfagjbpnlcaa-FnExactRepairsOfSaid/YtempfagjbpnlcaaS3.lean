/- The runs of a row: contracts. No condition. -/
import Derived.Test.YtempfagjbpnlcaaS2
import Derived.Test.YtempfagjbpnlcaaS1
import Derived.Test.YtempfagjbpnlcaaT
namespace Go.Proofs.Ytempfagjbpnlcaa
open Go.RowKit

theorem pl_first {zs : List Int} {k : Nat} (hk : k < zs.length) (hno : ¬ zs[k] ∈ zs.take k) : pl zs zs[k] = k := by
  have h : zs.idxOf zs[k] = (zs.take k ++ zs[k] :: zs.drop (k + 1)).idxOf zs[k] := by
    rw [List.getElem_cons_drop, List.take_append_drop]
  unfold pl
  rw [h, List.idxOf_append, if_neg hno, List.idxOf_cons_self, List.length_take]
  omega
end Go.Proofs.Ytempfagjbpnlcaa
