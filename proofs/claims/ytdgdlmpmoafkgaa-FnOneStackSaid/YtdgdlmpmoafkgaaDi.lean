/- laws.isIn, laws.different. No condition. -/
import Derived.Test.YtdgdlmpmoafkgaaEq
import Derived.Test.YtdgdlmpmoafkgaaEx
import Derived.Test.YtdgdlmpmoafkgaaT
namespace Go.Proofs.Ytdgdlmpmoafkgaa
open Go.RowKit

theorem slice_uptoI (b o n c j : Nat) (h : j ≤ c) (W : World) :
    (Instr.slice 22 (.slice (some ⟨b, o, none⟩) n c) none (some (.int .i64 (j : Int))) none).run Try.prog W = .ok (.slice (some ⟨b, o, none⟩) j c) W := by
  have h1 : (0 : Int) ≤ (j : Int) := by omega
  have h2 : (j : Int) ≤ (c : Int) := by omega
  go_simp
end Go.Proofs.Ytdgdlmpmoafkgaa
