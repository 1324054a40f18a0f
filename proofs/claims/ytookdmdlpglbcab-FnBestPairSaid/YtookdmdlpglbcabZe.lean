/- The walk of FnExactBestPair. No condition. -/
import Derived.Test.YtookdmdlpglbcabZd
import Derived.Test.YtookdmdlpglbcabG2
import Derived.Test.YtookdmdlpglbcabEx
import Derived.Test.YtookdmdlpglbcabEq
import Derived.Test.YtookdmdlpglbcabT
import Derived.Test.YtookdmdlpglbcabMark2
namespace Go.Proofs.Ytookdmdlpglbcab
open Go.RowKit

theorem bpL_len (r : Int) : (bpL r).length ≤ 2 := by
  unfold bpL
  split <;> simp [pL]
theorem specBP_ret (most : Int) (w : World) (q : List Int) (r : Int) (hq : bpL most = q) (hr : bpR most = r) : Calls Try.prog 25 #[.int .i64 most] w (BpRes w q r) := by
  rw [← hq, ← hr]; exact specBestPair_any most w
theorem impBP_ret (most : Int) (w : World) (q : List Int) (r : Int) (hq : bpL most = q) (hr : bpR most = r) : Calls Try.prog 24 #[.int .i64 most] w (BpRes w q r) := by
  rw [← hq, ← hr]; exact impBestPair_any most w
end Go.Proofs.Ytookdmdlpglbcab
