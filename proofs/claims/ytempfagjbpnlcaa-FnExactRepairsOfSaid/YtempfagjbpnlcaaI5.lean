/- spec.RisingOf; laws.greatestOf, laws.placeOf. No condition. -/
import Derived.Test.YtempfagjbpnlcaaI4
import Derived.Test.YtempfagjbpnlcaaI3
import Derived.Test.YtempfagjbpnlcaaS6
namespace Go.Proofs.Ytempfagjbpnlcaa
open Go.RowKit

def risV (zs : List Int) : Int := if rowB 9 zs then (lis zs : Int) else -1
theorem risV_yes {zs : List Int} (h : rowB 9 zs = true) : risV zs = (lis zs : Int) := by simp [risV, h]
theorem risV_no {zs : List Int} (h : rowB 9 zs = false) : risV zs = -1 := by simp [risV, h]
theorem lis_le_len (zs : List Int) : lis zs ≤ zs.length := lisTo_le zs _

/-- The greatest of the first k, 0 if there is none. -/
def grt (zs : List Int) : Nat → Int
  | 0 => 0
  | k + 1 => max (grt zs k) (zs.getD k 0)
theorem grt_ge {zs : List Int} {k i : Nat} (h : i < k) : zs.getD i 0 ≤ grt zs k := by
  induction k with
  | zero => omega
  | succ k ih =>
    simp only [grt]
    by_cases e : i = k
    · subst e; omega
    · have := ih (by omega); omega
theorem grt_at (zs : List Int) (k : Nat) : grt zs k = 0 ∨ ∃ i, i < k ∧ grt zs k = zs.getD i 0 := by
  induction k with
  | zero => exact .inl rfl
  | succ k ih =>
    simp only [grt]
    by_cases h : grt zs k ≤ zs.getD k 0
    · exact .inr ⟨k, by omega, by omega⟩
    · rcases ih with h1 | ⟨i, h1, h2⟩
      · exact .inl (by omega)
      · exact .inr ⟨i, by omega, by omega⟩
end Go.Proofs.Ytempfagjbpnlcaa
