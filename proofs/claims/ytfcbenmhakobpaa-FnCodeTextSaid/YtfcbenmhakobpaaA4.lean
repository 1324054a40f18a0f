/- Contracts of this seat. No condition. -/
import Derived.Test.YtfcbenmhakobpaaA3
namespace Go.Proofs.Ytfcbenmhakobpaa
open Go.RowKit

set_option maxHeartbeats 1000000 in
theorem checkOf_any (p q r s : Int) (w : World) (hp : 0 ≤ p ∧ p ≤ 9) (hq : 0 ≤ q ∧ q ≤ 9) (hr : 0 ≤ r ∧ r ≤ 9) (hs : 0 ≤ s ∧ s ≤ 9) :
    Calls Try.prog 24 #[.agg #[.int .i64 p, .int .i64 q, .int .i64 r, .int .i64 s]] w fun e w' =>
      e = .returned (.int .i64 ((p + 2 * q + 3 * r + 4 * s) % 11)) ∧ Below w.heap.size w w' := by
  have i0 : ∀ w, (Instr.index 39 (.agg #[.int .i64 p, .int .i64 q, .int .i64 r, .int .i64 s]) (.int .i64 0)).run Try.prog w = .ok (.int .i64 p) w := fun _ => by kernel_rfl
  have i1 : ∀ w, (Instr.index 39 (.agg #[.int .i64 p, .int .i64 q, .int .i64 r, .int .i64 s]) (.int .i64 1)).run Try.prog w = .ok (.int .i64 q) w := fun _ => by kernel_rfl
  have i2 : ∀ w, (Instr.index 39 (.agg #[.int .i64 p, .int .i64 q, .int .i64 r, .int .i64 s]) (.int .i64 2)).run Try.prog w = .ok (.int .i64 r) w := fun _ => by kernel_rfl
  have i3 : ∀ w, (Instr.index 39 (.agg #[.int .i64 p, .int .i64 q, .int .i64 r, .int .i64 s]) (.int .i64 3)).run Try.prog w = .ok (.int .i64 s) w := fun _ => by kernel_rfl
  go_enter Try.func24, Try.ntmps24
  go_wp2
  go_rounds 5
  go_ret
  refine ⟨ret_int ?_, by go_grown⟩
  show _ = _
  simp

theorem impCheckOf_any (A : Option Addr) (c : Nat) (zs : List Int) (w : World) (hr : Ints w w.heap.size A zs) :
    Calls Try.prog 9 #[.slice A zs.length c] w fun e w' => e = .returned (.int .i64 (checkF zs)) ∧ Below w.heap.size w w' := by
  by_cases hv : validD zs = true
  · have h4 : zs.length = 4 := by simp only [validD, Bool.and_eq_true, beq_iff_eq] at hv; exact hv.2
    obtain ⟨p, q, r, s, rfl⟩ := four_of h4
    have hp := digit_of hv (k := 0) (by simp)
    have hq := digit_of hv (k := 1) (by simp)
    have hr' := digit_of hv (k := 2) (by simp)
    have hs := digit_of hv (k := 3) (by simp)
    simp only [List.getElem_cons_zero, List.getElem_cons_succ] at hp hq hr' hs
    have hF : checkF [p, q, r, s] = (p + 2 * q + 3 * r + 4 * s) % 11 := by
      simp only [checkF, hv, if_true, chk]; congr 1; omega
    have HF := Lib.hid hF
    clear h4 hv hF
    go_enter Try.func9, Try.ntmps9
    go_wp2_with (first | (go_at_call 23; refine (digitsOf_ok _ _ _ _ _ _ _ hr hp hq hr' hs).mono ?_; rintro e w1 ⟨rfl, hb1⟩) | (go_at_call 24; refine (checkOf_any _ _ _ _ _ hp hq hr' hs).mono ?_; rintro e w2 ⟨rfl, hb2⟩))
    go_ret
    refine ⟨ret_int HF.out.symm, ?_⟩
    exact (hb1.alloc hb1.size _).trans (hb2.mono (by have := hb1.size; simp; omega))
  · have hv' : validD zs = false := by simpa using hv
    clear hv
    have HV := Lib.hid hv'
    go_enter Try.func9, Try.ntmps9
    go_wp2_with (first | (go_at_call 23; refine (digitsOf_bad _ _ _ _ hr HV.out).mono ?_; rintro e w1 ⟨rfl, hb1⟩))
    go_ret
    exact ⟨ret_int (by simp [checkF, HV.out]), hb1.alloc hb1.size _⟩
end Go.Proofs.Ytfcbenmhakobpaa
