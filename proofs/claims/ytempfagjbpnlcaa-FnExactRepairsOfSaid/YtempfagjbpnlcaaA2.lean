/- Contracts. No condition. -/
import Derived.Test.YtempfagjbpnlcaaA1
import Derived.Test.YtempfagjbpnlcaaRd2
namespace Go.Proofs.Ytempfagjbpnlcaa
open Go.RowKit

set_option maxRecDepth 100000 in
set_option maxHeartbeats 400000 in
theorem check_any (A : Option Addr) (c : Nat) (zs : List Int) (w : World) (hr : Ints w w.heap.size A zs) (hv : validD zs = true) :
    Calls Try.prog 48 #[.slice A zs.length c] w fun e w' => e = .returned (.int .i64 (chk zs 0 % 11)) ∧ w = w' := by
  have hl : zs.length = 4 := by simp only [validD, Bool.and_eq_true, beq_iff_eq] at hv; exact hv.2
  have HL := Lib.hid hl
  have hl2 : zs.length ≤ 4 := by omega
  clear hl
  have HV := Lib.hid hv; clear hv
  have hdig : ∀ (k : Nat) (hk : k < zs.length), 0 ≤ zs[k] ∧ zs[k] ≤ 9 := fun k hk => digit_of HV.out hk
  have HD := Lib.hid hdig; clear hdig
  go_enter Try.func48, Try.ntmps48
  go_wp2
  go_loop [3, 4] (fun n i => ∃ k : Nat, k ≤ zs.length ∧ i = .int .i64 k ∧ n = .int .i64 (chk (zs.take k) 0)) (fun _ i => zs.length - (intOf i).toNat)
  case atStart => exact ⟨0, by omega, rfl, by simp [chk]⟩
  case round =>
    obtain ⟨k, hk, rfl, rfl⟩ := hrel
    have hb1 := chk_bd (zs.take k) 0 (fun z hz => by obtain ⟨i, hi, rfl⟩ := List.getElem_of_mem (List.mem_of_mem_take hz); exact HD.out i hi)
    have hlt' : (zs.take k).length ≤ 4 := by rw [List.length_take]; omega
    have hb2 : chk (zs.take k) 0 ≤ 144 := by
      have : ((zs.take k).length : Int) * (((0 : Nat) : Int) + (zs.take k).length) ≤ 4 * 4 := by
        rw [show ((0 : Nat) : Int) + ((zs.take k).length : Int) = ((zs.take k).length : Int) by omega]
        exact Int.mul_le_mul (by omega) (by omega) (by omega) (by omega)
      omega
    have hb3 := hb1.1
    clear hb1 hlt'
    by_cases hlt : k < zs.length
    · obtain ⟨b, o, rfl, hb, hc⟩ := hr.open (by simp; omega)
      have hcell := ints_at hc hlt
      clear hc
      have hz := HD.out k hlt
      have HT := Lib.hid (chk_take hlt)
      have hm1 : 0 ≤ ((k : Int) + 1) * zs[k] := Int.mul_nonneg (by omega) hz.1
      have hm2 : ((k : Int) + 1) * zs[k] ≤ 4 * 9 := Int.mul_le_mul (by omega) hz.2 hz.1 (by omega)
      go_wp2
      go_round
      case rel => exact ⟨k + 1, by omega, by go_num, by rw [HT.out]⟩
      case measure => simp [intOf]; omega
    · have hk' : k = zs.length := by omega
      subst hk'
      rw [List.take_length] at *
      go_wp2
      go_ret
      exact ⟨rfl, rfl⟩

def checkF (zs : List Int) : Int := if validD zs then chk zs 0 % 11 else -1

def eqI (xs ys : List Int) : Bool := decide (xs = ys)

theorem eqI_ne {xs ys : List Int} {k : Nat} (h1 : k < xs.length) (h2 : k < ys.length) (h : xs[k] ≠ ys[k]) : eqI xs ys = false := by
  simp only [eqI, decide_eq_false_iff_not]
  rintro rfl
  exact h rfl

theorem eqI_of {xs ys : List Int} (h : xs.length = ys.length) (h2 : xs.take xs.length = ys.take xs.length) : eqI xs ys = true := by
  rw [List.take_length, List.take_of_length_le (by omega)] at h2
  simp [eqI, h2]

set_option maxRecDepth 100000 in
set_option maxHeartbeats 400000 in
theorem eqIntS_any (A B : Option Addr) (c d : Nat) (xs ys : List Int) (w : World) (hx : Ints w w.heap.size A xs) (hy : Ints w w.heap.size B ys) (hl : xs.length ≤ 9000000000000000000) :
    Calls Try.prog 21 #[.slice A xs.length c, .slice B ys.length d] w fun e w' => e = .returned (.bool (eqI xs ys)) ∧ ∃ n, w' = w.drewN n := by
  by_cases hne : xs.length = ys.length
  · have HN := Lib.hid hne
    have hle : xs.length ≤ ys.length := by omega
    have hge : ys.length ≤ xs.length := by omega
    have ht : ((xs.length : Int) != (ys.length : Int)) = false := by simp; omega
    clear hne
    go_enter Try.func21, Try.ntmps21
    go_wp2
    go_loopw [5] (fun i wr => ∃ k : Nat, k ≤ xs.length ∧ i = .int .i64 k ∧ xs.take k = ys.take k ∧ ∃ n, wr = w.drewN n) (fun i _ => xs.length - (intOf i).toNat)
    case atStart => exact ⟨0, by omega, rfl, by simp, 0, rfl⟩
    case round =>
      obtain ⟨k, hk, rfl, hall, n, rfl⟩ := hrel
      have HA := Lib.hid hall; clear hall
      clear ht
      by_cases hlt : k < xs.length
      · obtain ⟨b, o, rfl, hb, hc⟩ := hx.open (by simp; omega)
        obtain ⟨b', o', rfl, hb', hc'⟩ := hy.open (by simp; omega)
        have hcell := ints_at hc hlt
        have hcell' := ints_at hc' (show k < ys.length by omega)
        clear hc hc'
        have hlt2 : (k : Int) < ys.length := by omega
        go_wp2
        go_quiet (fail)
        go_wp2
        · have h : (xs[k] != ys[k]) = true := by assumption
          go_ret
          exact ⟨ret_bool (eqI_ne hlt (by omega) (by simpa using h)).symm, _, World.drewN_drewN ..⟩
        · have h : (xs[k] != ys[k]) = false := by assumption
          go_roundw
          case rel => exact ⟨k + 1, by omega, by go_num, by rw [List.take_succ_eq_append_getElem hlt, List.take_succ_eq_append_getElem (show k < ys.length by omega), HA.out, show xs[k] = ys[k] from by simpa using h], _, rfl⟩
          case measure => simp [intOf]; omega
      · have hk' : k = xs.length := by omega
        subst hk'
        go_wp2
        go_ret
        exact ⟨ret_bool (eqI_of HN.out HA.out).symm, _, rfl⟩
  · have ht : ((xs.length : Int) != (ys.length : Int)) = true := by simp; omega
    have HN := Lib.hid hne
    clear hne
    go_enter Try.func21, Try.ntmps21
    go_wp2
    go_ret
    refine ⟨ret_bool ?_, 0, rfl⟩
    have := HN.out
    symm
    simp only [eqI, decide_eq_false_iff_not]
    rintro rfl
    exact this rfl
end Go.Proofs.Ytempfagjbpnlcaa
