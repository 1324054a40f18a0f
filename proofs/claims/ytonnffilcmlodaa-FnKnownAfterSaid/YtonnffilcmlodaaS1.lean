/- Powers and rows: contracts of spec. No condition. -/
import Derived.Test.YtonnffilcmlodaaS0
import Derived.Test.YtonnffilcmlodaaA1
import Derived.Test.YtonnffilcmlodaaRows
namespace Go.Proofs.Ytonnffilcmlodaa
open Go.RowKit

set_option maxRecDepth 100000 in
theorem power_any (x n : Nat) (w : World) (hx : 1 ≤ x) (hb : x ^ n ≤ 1000000000000000) (hn : n ≤ 1000000) :
    Calls Try.prog 57 #[.int .i64 x, .int .i64 n] w fun e w' => e = .returned (.int .i64 ((x ^ n : Nat) : Int)) ∧ w = w' := by
  have HB := Lib.hid hb
  clear hb
  have hle : ∀ j, j ≤ n → x ^ j ≤ 1000000000000000 := fun j hj => Nat.le_trans (Nat.pow_le_pow_right hx hj) HB.out
  have HL := Lib.hid hle
  clear hle
  go_enter Try.func57, Try.ntmps57
  go_wp2
  go_loop [1, 5] (fun m out => ∃ j : Nat, j ≤ n ∧ m = .int .i64 ((n - j : Nat) : Int) ∧ out = .int .i64 ((x ^ j : Nat) : Int)) (fun m _ => (intOf m).toNat)
  case atStart => exact ⟨0, by omega, rfl, rfl⟩
  case round =>
    obtain ⟨j, hj, rfl, rfl⟩ := hrel
    obtain ⟨a, ha⟩ : ∃ a, x ^ j = a := ⟨_, rfl⟩
    by_cases hlt : j < n
    · have h1 := HL.out j hj
      have h2 := HL.out (j + 1) (by omega)
      rw [Nat.pow_succ, ha] at h2
      rw [ha] at h1
      have hm1 : (0 : Int) ≤ (a : Int) * (x : Int) := by rw [← Int.natCast_mul]; omega
      have hm2 : (a : Int) * (x : Int) ≤ 1000000000000000 := by rw [← Int.natCast_mul]; omega
      have HA := Lib.hid ha
      obtain ⟨d, hd⟩ : ∃ d, n - j = d + 1 := ⟨n - j - 1, by omega⟩
      have HD := Lib.hid hd
      have hd1 : d ≤ 1000000 := by omega
      rw [ha, hd]
      clear h2 ha hd
      have hd0 : (0 : Int) < ((d + 1 : Nat) : Int) := by omega
      go_wp2
      go_round
      case rel => exact ⟨j + 1, by omega, by rw [show n - (j + 1) = d by have := HD.out; omega], by rw [Nat.pow_succ, HA.out, Int.natCast_mul]⟩
      case measure => simp [intOf]
    · have hj' : j = n := by omega
      subst hj'
      rw [Nat.sub_self, ha]
      have HA := Lib.hid ha
      clear ha
      go_wp2
      go_ret
      exact ⟨ret_int (by rw [← HA.out]; simp), rfl⟩
end Go.Proofs.Ytonnffilcmlodaa
