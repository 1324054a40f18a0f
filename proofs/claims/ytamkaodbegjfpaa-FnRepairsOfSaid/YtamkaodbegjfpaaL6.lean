/- The walk of the law FnCodeText. No condition. -/
import Derived.Test.YtamkaodbegjfpaaL2
import Derived.Test.YtamkaodbegjfpaaC5
import Derived.Test.YtamkaodbegjfpaaEq
namespace Go.Proofs.Ytamkaodbegjfpaa
open Go.RowKit

set_option maxRecDepth 100000 in
theorem drawCodeText_any (A : Option Addr) (c : Nat) (zs : List Int) (w : World) (hr : Own w 0 w.heap.size A (zs.map (Value.int .u8))) (hx : zs.length ≤ c ∧ c ≤ maxLen ∧ ∀ z ∈ zs, (Lit.int .u8 z).wf = true) :
    Calls Try.prog 29 #[.slice A zs.length c] w fun e w' => ∃ (A : Option Addr) (c : Nat) (ds : List Int), e = .returned (.slice A ds.length c) ∧ ds.length ≤ 4 ∧ (∀ z ∈ ds, -1 ≤ z ∧ z ≤ 10) ∧ Own w' 0 w'.heap.size A (ds.map (Value.int .i64)) ∧ Below w.heap.size w w' := by
  have H := Lib.hid hx
  clear hx
  go_enter Try.func29, Try.ntmps29
  go_wp2_with fail
  refine (newReader_any _ _ _ _ hr H.out).mono ?_
  rintro e w1 ⟨rfl, hrd, hb1⟩
  go_wp2_with fail
  refine (someDigits_any _ 0 _ hrd (by omega)).mono ?_
  rintro e w2 ⟨A2, c2, ds, rfl, h4, hds, ho, hg⟩
  go_wp2_with fail
  go_ret
  exact ⟨A2, c2, ds, rfl, h4, hds, ho, hb1.grown hg hb1.size (fun k hk => by injection hk with hk; omega)⟩


theorem sg_back {n : Int} (h : 0 ≤ n ∧ n ≤ 9) : ((sg n).toNat : Int) - 48 = n := by
  rcases digit_cases ⟨h.1, by omega⟩ with rfl | rfl | rfl | rfl | rfl | rfl | rfl | rfl | rfl | rfl | rfl <;> first | omega | rfl

theorem digs_code {ds : List Int} (h : validD ds = true) (c : Int) : digs (codeL ds c) = ds := by
  have h4 : ds.length = 4 := by simp only [validD, Bool.and_eq_true, beq_iff_eq] at h; exact h.2
  obtain ⟨p, q, r, s, rfl⟩ := four_of h4
  have hp := digit_of h (k := 0) (by simp)
  have hq := digit_of h (k := 1) (by simp)
  have hr := digit_of h (k := 2) (by simp)
  have hs := digit_of h (k := 3) (by simp)
  simp only [List.getElem_cons_zero, List.getElem_cons_succ] at hp hq hr hs
  show [((sg p).toNat : Int) - 48, ((sg q).toNat : Int) - 48, ((sg r).toNat : Int) - 48, ((sg s).toNat : Int) - 48] = _
  rw [sg_back hp, sg_back hq, sg_back hr, sg_back hs]

theorem read_code {ds : List Int} (h : validD ds = true) : readOk (codeL ds (checkF ds)) = true ∧ readV (codeL ds (checkF ds)) = ds := by
  have h4 : ds.length = 4 := by simp only [validD, Bool.and_eq_true, beq_iff_eq] at h; exact h.2
  have hok : readOk (codeL ds (checkF ds)) = true := by
    simp only [readOk, digs_code h, h, Bool.and_true, decide_true]
    simp [codeL, h4]
  exact ⟨hok, by rw [readOk_yes hok, digs_code h]⟩
end Go.Proofs.Ytamkaodbegjfpaa
