/- RunsOf and ValidRow, both sides. No condition. -/
import Derived.Test.YtempfagjbpnlcaaS5
namespace Go.Proofs.Ytempfagjbpnlcaa
open Go.RowKit

theorem runs_last {zs : List Int} (hz : 0 < zs.length) {w : World} {B base : Nat} {A : Option Addr} (h : OwnInts w base B A (runsL zs)) :
    ∃ b o, A = some ⟨b, o, none⟩ ∧ w.cell? ⟨b, o + (zs.length - 1), none⟩ = some (.int .i64 (runNo zs (zs.length - 1) : Int)) := by
  obtain ⟨b, o, hA, _, hc⟩ := h.open (by simp [runsL_length]; omega)
  refine ⟨b, o, hA, ?_⟩
  have := ints_at hc (k := zs.length - 1) (by rw [runsL_length]; omega)
  rw [runsL_get zs (by omega)] at this
  exact this
end Go.Proofs.Ytempfagjbpnlcaa
