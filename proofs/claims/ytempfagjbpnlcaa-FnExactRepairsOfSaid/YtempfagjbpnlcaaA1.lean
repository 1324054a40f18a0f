/- Contracts. No condition. -/
import Derived.Test.YtempfagjbpnlcaaRows
import Derived.Test.YtempfagjbpnlcaaAid
import Derived.BigQuiet
import Derived.Deep.QuietTactic
import Derived.Handy
namespace Go.Proofs.Ytempfagjbpnlcaa
open Go.RowKit

def inR (n lo hi : Int) : Bool := decide (lo ≤ n ∧ n ≤ hi)

set_option maxRecDepth 100000 in
theorem inRange_any (n lo hi : Int) (w : World) :
    Calls Try.prog 47 #[.int .i64 n, .int .i64 lo, .int .i64 hi] w fun e w' => e = .returned (.bool (inR n lo hi)) ∧ w = w' := by
  by_cases h : lo ≤ n
  · by_cases h2 : n ≤ hi
    · go_enter Try.func47, Try.ntmps47
      go_wp2
      go_ret
      exact ⟨by simp [inR]; omega, rfl⟩
    · go_enter Try.func47, Try.ntmps47
      go_wp2
      go_ret
      exact ⟨by simp [inR]; omega, rfl⟩
  · go_enter Try.func47, Try.ntmps47
    go_wp2
    go_ret
    exact ⟨by simp [inR]; omega, rfl⟩

def validD (zs : List Int) : Bool := zs.all (fun z => inR z 0 9) && zs.length == 4

set_option maxRecDepth 100000 in
set_option maxHeartbeats 400000 in
theorem validDigits_any (A : Option Addr) (c : Nat) (zs : List Int) (w : World) (hr : Ints w w.heap.size A zs) (hl : zs.length ≤ 9000000000000000000) :
    Calls Try.prog 31 #[.slice A zs.length c] w fun e w' => e = .returned (.bool (validD zs)) ∧ w = w' := by
  go_enter Try.func31, Try.ntmps31
  go_wp2
  go_loop [3] (fun i => ∃ k : Nat, k ≤ zs.length ∧ i = .int .i64 k ∧ (zs.take k).all (fun z => inR z 0 9) = true) (fun i => zs.length - (intOf i).toNat)
  case atStart => exact ⟨0, by omega, rfl, by simp⟩
  case round =>
    obtain ⟨k, hk, rfl, hall⟩ := hrel
    have HA := Lib.hid hall; clear hall
    by_cases hlt : k < zs.length
    · obtain ⟨b, o, rfl, hb, hc⟩ := hr.open (by simp; omega)
      have hcell := ints_at hc hlt
      clear hc
      go_wp2_with (go_at_call 47; refine (inRange_any _ _ _ _).mono ?_; rintro e w' ⟨rfl, rfl⟩)
      · have h : (!inR zs[k] 0 9) = true := by assumption
        go_ret
        refine ⟨?_, rfl⟩
        have : validD zs = false := by
          simp only [validD, Bool.and_eq_false_iff]
          left
          simp only [Bool.not_eq_true'] at h
          rw [List.all_eq_false]
          exact ⟨zs[k], List.getElem_mem hlt, by simp [h]⟩
        rw [this]; rfl
      · have h : (!inR zs[k] 0 9) = false := by assumption
        go_round
        case rel => exact ⟨k + 1, by omega, by go_num, by rw [take_all hlt, HA.out]; simpa using h⟩
        case measure => simp [intOf]; omega
    · have hk' : k = zs.length := by omega
      subst hk'
      go_wp2
      go_ret
      have := HA.out
      rw [List.take_length] at this
      refine ⟨ret_bool ?_, rfl⟩
      rw [Bool.eq_iff_iff]
      simp only [validD, this, Bool.true_and, beq_iff_eq]
      omega

def chk : List Int → Nat → Int
  | [], _ => 0
  | z :: zs, i => ((i : Int) + 1) * z + chk zs (i + 1)

theorem chk_snoc (zs : List Int) (z : Int) (i : Nat) : chk (zs ++ [z]) i = chk zs i + ((i : Int) + zs.length + 1) * z := by
  induction zs generalizing i with
  | nil => simp [chk]
  | cons a l ih => simp [chk, ih]; rw [show (i : Int) + 1 + l.length + 1 = (i : Int) + (l.length + 1) + 1 by omega]; omega

theorem chk_take {zs : List Int} {k : Nat} (hk : k < zs.length) : chk (zs.take (k + 1)) 0 = chk (zs.take k) 0 + ((k : Int) + 1) * zs[k] := by
  rw [List.take_succ_eq_append_getElem hk, chk_snoc, List.length_take, Nat.min_eq_left (by omega)]; simp

theorem digit_of {zs : List Int} (h : validD zs = true) {k : Nat} (hk : k < zs.length) : 0 ≤ zs[k] ∧ zs[k] ≤ 9 := by
  simp only [validD, Bool.and_eq_true, List.all_eq_true] at h
  have := h.1 _ (List.getElem_mem hk)
  simpa [inR] using this

theorem chk_bd (zs : List Int) (i : Nat) (h : ∀ z ∈ zs, 0 ≤ z ∧ z ≤ 9) : 0 ≤ chk zs i ∧ chk zs i ≤ 9 * ((zs.length : Int) * (i + zs.length)) := by
  induction zs generalizing i with
  | nil => simp [chk]
  | cons a l ih =>
    have h1 := ih (i + 1) (fun z hz => h z (by simp [hz]))
    have h2 := h a (by simp)
    simp only [chk, List.length_cons]
    have h3 : 0 ≤ ((i : Int) + 1) * a := Int.mul_nonneg (by omega) h2.1
    have h4 : ((i : Int) + 1) * a ≤ ((i : Int) + 1) * 9 := Int.mul_le_mul_of_nonneg_left h2.2 (by omega)
    refine ⟨by omega, ?_⟩
    have h5 : ((l.length + 1 : Nat) : Int) * ((i : Int) + (l.length + 1 : Nat)) = (l.length : Int) * ((i + 1 : Nat) + l.length) + (i + 1 + l.length) := by
      push_cast
      rw [Int.add_mul, show (i : Int) + (l.length + 1) = i + 1 + l.length by omega]; omega
    rw [h5]
    have h6 := h1.2
    omega
end Go.Proofs.Ytempfagjbpnlcaa
