/- A list ascends. No condition. -/
import Derived.Test.YtldbefmiabgkhabS0
import Derived.Test.YtldbefmiabgkhabA1
import Derived.Test.YtldbefmiabgkhabRd2
import Derived.IntWalk
namespace Go.Proofs.Ytldbefmiabgkhab
open Go.RowKit

set_option maxRecDepth 100000 in
set_option maxHeartbeats 1000000 in
theorem ascends_any (A : Option Addr) (c : Nat) (q : List Int) (w : World) (hr : Ints w w.heap.size A q) (hl : q.length ≤ 1000) (hs : q.Pairwise (· < ·)) :
    Calls Try.prog 24 #[.slice A q.length c] w fun e w' => e = .returned (.bool true) ∧ ∃ n, w' = w.drewN n := by
  have HS := Lib.hid hs
  clear hs
  go_enter Try.func24, Try.ntmps24
  go_wp2
  go_loopw [3] (fun i wr => ∃ k : Nat, 1 ≤ k ∧ (k ≤ q.length ∨ k = 1) ∧ i = .int .i64 k ∧ ∃ n, wr = w.drewN n) (fun i _ => q.length - (intOf i).toNat)
  case atStart => exact ⟨1, by omega, by omega, rfl, 0, rfl⟩
  case round =>
    obtain ⟨k, hk1, hk, rfl, n, rfl⟩ := hrel
    by_cases hlt : k < q.length
    · obtain ⟨m, hm⟩ : ∃ m, k = m + 1 := ⟨k - 1, by omega⟩
      obtain ⟨b, o, rfl, hb, hc⟩ := hr.open (by simp; omega)
      have x1 := ints_at hc hlt
      have x2 := ints_at hc (show m < q.length by omega)
      have hlt2 := List.pairwise_iff_getElem.1 HS.out m k (by omega) hlt (by omega)
      obtain ⟨u, hu⟩ : ∃ u, q[k] = u := ⟨_, rfl⟩
      obtain ⟨v, hv⟩ : ∃ v, q[m]'(by omega) = v := ⟨_, rfl⟩
      rw [hu] at x1 hlt2
      rw [hv] at x2 hlt2
      have hmI : (k : Int) - 1 = (m : Int) := by omega
      have hmw : IntKind.i64.wrap ((k : Int) - 1) = (m : Int) := by rw [hmI]; exact IntWalk.i64_in _ (by omega)
      have hkI : (k : Int) < q.length := by omega
      have hmq : (m : Int) < q.length := by omega
      have hk0 : (0 : Int) ≤ k := by omega
      have hm0 : (0 : Int) ≤ m := by omega
      have hd : decide (u ≤ v) = false := decide_eq_false (by omega)
      clear hc hu hv hm
      go_wp2
      go_quiet (fail)
      go_simp
      clear hmw hmI hd
      go_wp2
      go_roundw
      case rel => exact ⟨k + 1, by omega, by omega, by go_num, _, rfl⟩
      case measure => simp [intOf]; omega
    · go_wp2
      go_ret
      exact ⟨rfl, _, rfl⟩
end Go.Proofs.Ytldbefmiabgkhab
