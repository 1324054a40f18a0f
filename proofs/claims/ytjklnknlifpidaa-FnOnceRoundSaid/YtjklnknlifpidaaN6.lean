/- Is a mark among the marks; impl.townOf. No condition. -/
import Derived.Test.YtjklnknlifpidaaN5
namespace Go.Proofs.Ytjklnknlifpidaa
open Go.RowKit

set_option maxRecDepth 100000 in
set_option maxHeartbeats 1000000 in
theorem idxB_any (g n c : Nat) (r : Nat → Bool) (v : Bool) (w : World) (hn : n ≤ 5) (hc : ∀ i, i < n → w.cell? ⟨g, i, none⟩ = some (.bool (r i))) :
    Calls Try.prog 60 #[.slice (some ⟨g, 0, none⟩) n c, .bool v] w fun e w' => ∃ x : Int, e = .returned (.int .i64 x) ∧ decide ((0 : Int) ≤ x) = (List.range n).any (fun i => r i == v) ∧ w = w' := by
  have HC := Lib.hid hc
  clear hc
  go_enter Try.func60, Try.ntmps60
  go_wp2
  go_loop [8] (fun i => ∃ (k : Nat), k ≤ n ∧ i = .int .i64 k ∧ ∀ j, j < k → r j ≠ v) (fun i => n - (intOf i).toNat)
  case atStart => exact ⟨0, by omega, rfl, fun j h => by omega⟩
  case round =>
    obtain ⟨k, hk, rfl, hno⟩ := hrel
    have HN := Lib.hid hno
    clear hno
    by_cases hlt : k < n
    · have hcell := HC.out k hlt
      have hz : ((0 : Nat) + k) = k := Nat.zero_add k
      have hk0 : (0 : Int) ≤ k := by omega
      have hkn : (k : Int) < n := by omega
      cases hrv : (r k == v) with
      | true =>
        have HF := Lib.hid (show decide ((0 : Int) ≤ (k : Int)) = (List.range n).any (fun i => r i == v) by
          rw [decide_eq_true hk0]; exact (List.any_eq_true.2 ⟨k, List.mem_range.2 hlt, hrv⟩).symm)
        have hrv' : (v == r k) = true := by rw [Bool.beq_comm]; exact hrv
        go_wp2
        go_ret
        exact ⟨_, rfl, HF.out, rfl⟩
      | false =>
        have hne : r k ≠ v := by intro e; rw [e] at hrv; simp at hrv
        have HF := Lib.hid (show ∀ j, j < k + 1 → r j ≠ v from fun j h => by
          by_cases e : j = k
          · rw [e]; exact hne
          · exact HN.out j (by omega))
        have hrv' : (v == r k) = false := by rw [Bool.beq_comm]; exact hrv
        clear hne
        go_wp2
        go_round
        case rel => exact ⟨k + 1, by omega, by go_num, HF.out⟩
        case measure => simp [intOf]; omega
    · have hkn : k = n := by omega
      subst hkn
      have HF := Lib.hid (show decide ((0 : Int) ≤ -1) = (List.range k).any (fun i => r i == v) by
        symm
        show _ = false
        rw [List.any_eq_false]
        intro i hi
        simpa using HN.out i (List.mem_range.1 hi))
      go_wp2
      go_ret
      exact ⟨_, rfl, HF.out, rfl⟩

set_option maxRecDepth 100000 in
theorem containsB_any (g n c : Nat) (r : Nat → Bool) (v : Bool) (w : World) (hn : n ≤ 5) (hc : ∀ i, i < n → w.cell? ⟨g, i, none⟩ = some (.bool (r i))) :
    Calls Try.prog 53 #[.slice (some ⟨g, 0, none⟩) n c, .bool v] w fun e w' => e = .returned (.bool ((List.range n).any (fun i => r i == v))) ∧ w = w' := by
  have H := Lib.hid (idxB_any g n c r v w hn hc)
  clear hc
  go_enter Try.func53, Try.ntmps53
  go_wp2_with fail
  refine H.out.mono ?_
  rintro e w' ⟨x, rfl, h1, rfl⟩
  go_wp2
  go_ret
  exact ⟨by rw [← h1]; rfl, rfl⟩
end Go.Proofs.Ytjklnknlifpidaa
