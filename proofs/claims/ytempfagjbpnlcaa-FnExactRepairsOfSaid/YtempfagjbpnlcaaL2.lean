/- The walk of the law FnCheckOf. No condition. -/
import Derived.Test.YtempfagjbpnlcaaA4
import Derived.Test.YtempfagjbpnlcaaRd2
import Derived.Deep.RegionHeld3
import Derived.Deep.RegionWith
import Derived.Outline
namespace Go.Proofs.Ytempfagjbpnlcaa
open Go.RowKit

theorem checkF_four {p q r s : Int} (h : validD [p, q, r, s] = true) : checkF [p, q, r, s] = (p + 2 * q + 3 * r + 4 * s) % 11 := by
  simp only [checkF, h, if_true, chk]; congr 1; omega

theorem validD_four {p q r s : Int} (hp : 0 ≤ p ∧ p ≤ 9) (hq : 0 ≤ q ∧ q ≤ 9) (hr : 0 ≤ r ∧ r ≤ 9) (hs : 0 ≤ s ∧ s ≤ 9) : validD [p, q, r, s] = true := by
  simp [validD, inR]; omega

theorem Int.emod_emod_eq_sub {a b : Int} (h : a % 11 = b % 11) : ∃ m : Int, a - b = 11 * m := ⟨(a / 11 - b / 11), by omega⟩

theorem change_one {zs : List Int} (h : validD zs = true) {k : Nat} (hk : k < zs.length) :
    checkF (zs.set k ((zs[k] + 1 + k) % 10)) ≠ checkF zs ∧ (zs[k] + 1 + k) % 10 ≠ zs[k] := by
  have h4 : zs.length = 4 := by simp only [validD, Bool.and_eq_true, beq_iff_eq] at h; exact h.2
  obtain ⟨p, q, r, s, rfl⟩ := four_of h4
  have hp := digit_of h (k := 0) (by simp)
  have hq := digit_of h (k := 1) (by simp)
  have hr := digit_of h (k := 2) (by simp)
  have hs := digit_of h (k := 3) (by simp)
  simp only [List.getElem_cons_zero, List.getElem_cons_succ] at hp hq hr hs
  have hk4 : k < 4 := by simpa using hk
  rw [checkF_four h]
  rcases (show k = 0 ∨ k = 1 ∨ k = 2 ∨ k = 3 by omega) with rfl | rfl | rfl | rfl
  all_goals
    simp only [List.set_cons_zero, List.set_cons_succ, List.getElem_cons_zero, List.getElem_cons_succ]
    rw [checkF_four (validD_four (by omega) (by omega) (by omega) (by omega))]
    refine ⟨fun e => ?_, by omega⟩
    obtain ⟨m, hm⟩ := Int.emod_emod_eq_sub e
    clear e
    omega

theorem swap_one {zs : List Int} (h : validD zs = true) {k : Nat} (hk : k + 1 < zs.length) (hne : zs[k + 1] ≠ zs[k]) :
    checkF ((zs.set (k + 1) zs[k]).set k zs[k + 1]) ≠ checkF zs := by
  have h4 : zs.length = 4 := by simp only [validD, Bool.and_eq_true, beq_iff_eq] at h; exact h.2
  obtain ⟨p, q, r, s, rfl⟩ := four_of h4
  have hp := digit_of h (k := 0) (by simp)
  have hq := digit_of h (k := 1) (by simp)
  have hr := digit_of h (k := 2) (by simp)
  have hs := digit_of h (k := 3) (by simp)
  simp only [List.getElem_cons_zero, List.getElem_cons_succ] at hp hq hr hs
  have hk4 : k + 1 < 4 := by simpa using hk
  rw [checkF_four h]
  rcases (show k = 0 ∨ k = 1 ∨ k = 2 by omega) with rfl | rfl | rfl
  all_goals
    simp only [List.set_cons_zero, List.set_cons_succ, List.getElem_cons_zero, List.getElem_cons_succ] at hne ⊢
    rw [checkF_four (validD_four (by omega) (by omega) (by omega) (by omega))]
    omega
end Go.Proofs.Ytempfagjbpnlcaa
