/- The walk of the law FnCheckOf. No condition. -/
import Derived.Test.YtfcbenmhakobpaaA4
import Derived.Test.YtfcbenmhakobpaaRd2
import Derived.Deep.RegionHeld3
import Derived.Deep.RegionWith
import Derived.Outline
namespace Go.Proofs.Ytfcbenmhakobpaa
open Go.RowKit

theorem drawCheckOf_any (A : Option Addr) (c : Nat) (zs : List Int) (w : World) (hr : Own w 0 w.heap.size A (zs.map (Value.int .u8))) (hx : zs.length ≤ c ∧ c ≤ maxLen ∧ ∀ z ∈ zs, (Lit.int .u8 z).wf = true) :
    Calls Try.prog 8 #[.slice A zs.length c] w fun e w' => ∃ (A : Option Addr) (c : Nat) (ds : List Int), e = .returned (.slice A ds.length c) ∧ ds.length ≤ 4 ∧ (∀ z ∈ ds, -1 ≤ z ∧ z ≤ 10) ∧ Own w' 0 w'.heap.size A (ds.map (Value.int .i64)) ∧ Below w.heap.size w w' := by
  have H := Lib.hid hx
  clear hx
  go_enter Try.func8, Try.ntmps8
  go_wp2_with fail
  refine (newReader_any _ _ _ _ hr H.out).mono ?_
  rintro e w1 ⟨rfl, hrd, hb1⟩
  go_wp2_with fail
  refine (someDigits_any _ 0 _ hrd (by omega)).mono ?_
  rintro e w2 ⟨A2, c2, ds, rfl, h4, hds, ho, hg⟩
  go_wp2_with fail
  go_ret
  exact ⟨A2, c2, ds, rfl, h4, hds, ho, hb1.grown hg hb1.size (fun k hk => by injection hk with hk; omega)⟩

theorem own_some {w : World} {base : Nat} {e : TypeId} {size n c : Nat} {A : Option Addr} {xs : List Value} (h : w.ownsRow base e size (.slice A n c) n xs) (hn : 0 < n) : ∃ g, A = some ⟨g, 0, none⟩ ∧ base ≤ g ∧ g < w.heap.size := by
  rcases h.2 with ⟨_, h0⟩ | ⟨g, cap, cur, hv, hg, hh, _⟩
  · omega
  · simp only [Value.slice.injEq] at hv
    exact ⟨g, hv.1, hg, (h.lt g (by simp [Value.ownBlock, hv.1])).2⟩

theorem checkF_four {p q r s : Int} (h : validD [p, q, r, s] = true) : checkF [p, q, r, s] = (p + 2 * q + 3 * r + 4 * s) % 11 := by
  simp only [checkF, h, if_true, chk]; congr 1; omega

theorem validD_four {p q r s : Int} (hp : 0 ≤ p ∧ p ≤ 9) (hq : 0 ≤ q ∧ q ≤ 9) (hr : 0 ≤ r ∧ r ≤ 9) (hs : 0 ≤ s ∧ s ≤ 9) : validD [p, q, r, s] = true := by
  simp [validD, inR]; omega

theorem Int.emod_emod_eq_sub {a b : Int} (h : a % 11 = b % 11) : ∃ m : Int, a - b = 11 * m := ⟨(a / 11 - b / 11), by omega⟩

theorem change_one {zs : List Int} (h : validD zs = true) {k : Nat} (hk : k < zs.length) :
    checkF (zs.set k ((zs[k] + 1 + k) % 10)) ≠ checkF zs ∧ (zs[k] + 1 + k) % 10 ≠ zs[k] := by
  have h4 : zs.length = 4 := by simp only [validD, Bool.and_eq_true, beq_iff_eq] at h; exact h.2
  obtain ⟨p, q, r, s, rfl⟩ := four_of h4
  have hp := digit_of h (k := 0) (by simp)
  have hq := digit_of h (k := 1) (by simp)
  have hr := digit_of h (k := 2) (by simp)
  have hs := digit_of h (k := 3) (by simp)
  simp only [List.getElem_cons_zero, List.getElem_cons_succ] at hp hq hr hs
  have hk4 : k < 4 := by simpa using hk
  rw [checkF_four h]
  rcases (show k = 0 ∨ k = 1 ∨ k = 2 ∨ k = 3 by omega) with rfl | rfl | rfl | rfl
  all_goals
    simp only [List.set_cons_zero, List.set_cons_succ, List.getElem_cons_zero, List.getElem_cons_succ]
    rw [checkF_four (validD_four (by omega) (by omega) (by omega) (by omega))]
    refine ⟨fun e => ?_, by omega⟩
    obtain ⟨m, hm⟩ := Int.emod_emod_eq_sub e
    clear e
    omega

theorem swap_one {zs : List Int} (h : validD zs = true) {k : Nat} (hk : k + 1 < zs.length) (hne : zs[k + 1] ≠ zs[k]) :
    checkF ((zs.set (k + 1) zs[k]).set k zs[k + 1]) ≠ checkF zs := by
  have h4 : zs.length = 4 := by simp only [validD, Bool.and_eq_true, beq_iff_eq] at h; exact h.2
  obtain ⟨p, q, r, s, rfl⟩ := four_of h4
  have hp := digit_of h (k := 0) (by simp)
  have hq := digit_of h (k := 1) (by simp)
  have hr := digit_of h (k := 2) (by simp)
  have hs := digit_of h (k := 3) (by simp)
  simp only [List.getElem_cons_zero, List.getElem_cons_succ] at hp hq hr hs
  have hk4 : k + 1 < 4 := by simpa using hk
  rw [checkF_four h]
  rcases (show k = 0 ∨ k = 1 ∨ k = 2 by omega) with rfl | rfl | rfl
  all_goals
    simp only [List.set_cons_zero, List.set_cons_succ, List.getElem_cons_zero, List.getElem_cons_succ] at hne ⊢
    rw [checkF_four (validD_four (by omega) (by omega) (by omega) (by omega))]
    omega
end Go.Proofs.Ytfcbenmhakobpaa
