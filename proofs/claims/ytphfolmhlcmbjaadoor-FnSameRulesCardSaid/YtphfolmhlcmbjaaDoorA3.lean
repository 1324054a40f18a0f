/- Contracts. No condition. -/
import Derived.Test.YtphfolmhlcmbjaaDoorA2
namespace Go.Proofs.YtphfolmhlcmbjaaDoor
open Go.RowKit

theorem four_of {zs : List Int} (h : zs.length = 4) : ∃ p q r s, zs = [p, q, r, s] := by
  match zs, h with
  | [p, q, r, s], _ => exact ⟨p, q, r, s, rfl⟩
end Go.Proofs.YtphfolmhlcmbjaaDoor
