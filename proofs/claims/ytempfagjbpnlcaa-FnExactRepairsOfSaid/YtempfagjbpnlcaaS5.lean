/- Runs: contracts of impl. No condition. -/
import Derived.Test.YtempfagjbpnlcaaS4
namespace Go.Proofs.Ytempfagjbpnlcaa
open Go.RowKit

theorem place_of {zs : List Int} (hv : rowB 9 zs = true) {k j : Nat} (hk : k < zs.length) (hj : j < zs.length) {y : Nat} (hy : zs[k] = (y : Int)) :
    (if pl zs (j : Int) < k + 1 then (pl zs (j : Int) : Int) else 0) = if j = y then (k : Int) else if pl zs (j : Int) < k then (pl zs (j : Int) : Int) else 0 := by
  by_cases e : j = y
  · subst e
    have := pl_at hv hk
    rw [hy] at this
    rw [if_pos rfl, this, if_pos (by omega)]
  · rw [if_neg e]
    have hne : pl zs (j : Int) ≠ k := by
      intro he
      have h := pl_get hv hj
      simp only [he] at h
      omega
    by_cases h1 : pl zs (j : Int) < k
    · rw [if_pos h1, if_pos (by omega)]
    · rw [if_neg h1, if_neg (by omega)]

theorem row_cell {wr : World} {base n c g : Nat} {f : Nat → Int} (hown : wr.ownsRow base 3 1 (.slice (some ⟨g, 0, none⟩) n c) n ((tab n f).map (Value.int .i64))) {k : Nat} (hk : k < n) :
    wr.cell? ⟨g, k, none⟩ = some (.int .i64 (f k)) := by
  have hat := hown.cellAt k (by omega)
  rw [tab_vals_get hk] at hat
  exact hat
end Go.Proofs.Ytempfagjbpnlcaa
