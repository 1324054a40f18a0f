/- The walk of the law FnCodeText. No condition. -/
import Derived.Test.YtempfagjbpnlcaaL2
import Derived.Test.YtempfagjbpnlcaaC5
import Derived.Test.YtempfagjbpnlcaaEq
namespace Go.Proofs.Ytempfagjbpnlcaa
open Go.RowKit

set_option maxRecDepth 100000 in
theorem drawCodeText_any (A : Option Addr) (c : Nat) (zs : List Int) (w : World) (hr : Own w 0 w.heap.size A (zs.map (Value.int .u8))) (hx : zs.length ≤ c ∧ c ≤ maxLen ∧ ∀ z ∈ zs, (Lit.int .u8 z).wf = true) :
    Calls Try.prog 9 #[.slice A zs.length c] w fun e w' => ∃ (A : Option Addr) (c : Nat) (ds : List Int), e = .returned (.slice A ds.length c) ∧ ds.length ≤ 4 ∧ (∀ z ∈ ds, -1 ≤ z ∧ z ≤ 10) ∧ Own w' 0 w'.heap.size A (ds.map (Value.int .i64)) ∧ Below w.heap.size w w' := by
  have H := Lib.hid hx
  clear hx
  go_enter Try.func9, Try.ntmps9
  go_wp2_with fail
  refine (newReader_any _ _ _ _ hr H.out).mono ?_
  rintro e w1 ⟨rfl, hrd, hb1⟩
  go_wp2_with fail
  refine (someDigits_any _ 0 _ hrd (by omega)).mono ?_
  rintro e w2 ⟨A2, c2, ds, rfl, h4, hds, ho, hg⟩
  go_wp2_with fail
  go_ret
  exact ⟨A2, c2, ds, rfl, h4, hds, ho, hb1.grown hg hb1.size (fun k hk => by injection hk with hk; omega)⟩


theorem sg_back {n : Int} (h : 0 ≤ n ∧ n ≤ 9) : ((sg n).toNat : Int) - 48 = n := by
  rcases digit_cases ⟨h.1, by omega⟩ with rfl | rfl | rfl | rfl | rfl | rfl | rfl | rfl | rfl | rfl | rfl <;> first | omega | rfl

theorem digs_code {ds : List Int} (h : validD ds = true) (c : Int) : digs (codeL ds c) = ds := by
  have h4 : ds.length = 4 := by simp only [validD, Bool.and_eq_true, beq_iff_eq] at h; exact h.2
  obtain ⟨p, q, r, s, rfl⟩ := four_of h4
  have hp := digit_of h (k := 0) (by simp)
  have hq := digit_of h (k := 1) (by simp)
  have hr := digit_of h (k := 2) (by simp)
  have hs := digit_of h (k := 3) (by simp)
  simp only [List.getElem_cons_zero, List.getElem_cons_succ] at hp hq hr hs
  show [((sg p).toNat : Int) - 48, ((sg q).toNat : Int) - 48, ((sg r).toNat : Int) - 48, ((sg s).toNat : Int) - 48] = _
  rw [sg_back hp, sg_back hq, sg_back hr, sg_back hs]

theorem read_code {ds : List Int} (h : validD ds = true) : readOk (codeL ds (checkF ds)) = true ∧ readV (codeL ds (checkF ds)) = ds := by
  have h4 : ds.length = 4 := by simp only [validD, Bool.and_eq_true, beq_iff_eq] at h; exact h.2
  have hok : readOk (codeL ds (checkF ds)) = true := by
    simp only [readOk, digs_code h, h, Bool.and_true, decide_true]
    simp [codeL, h4]
  exact ⟨hok, by rw [readOk_yes hok, digs_code h]⟩

set_option maxRecDepth 100000 in
set_option maxHeartbeats 2000000 in
theorem codeText_law (A : Option Addr) (c : Nat) (zs : List Int) (w : World) (hr : Own w 0 w.heap.size A (zs.map (Value.int .u8))) (hx : zs.length ≤ c ∧ c ≤ maxLen ∧ ∀ z ∈ zs, (Lit.int .u8 z).wf = true) :
    Calls Try.prog 3 #[.slice A zs.length c] w fun e w' => e = .returned (.bool true) ∧ Below w.heap.size w w' := by
  have hl : zs.length ≤ 9223372036854775807 := by have := hx.1; have := hx.2.1; unfold maxLen at this; omega
  have HX := Lib.hid hx
  clear hx
  by_cases h20 : zs.length ≤ 1048576
  · go_enter Try.func3, Try.ntmps3
    go_wp2_with fail
    refine (drawCodeText_any _ _ _ _ hr HX.out).mono ?_
    rintro e w1 ⟨B, d, ds, rfl, h4, hds, ho, hb1⟩
    have HDS := Lib.hid hds
    clear hds
    obtain ⟨b, hB, hBl⟩ : ∃ b : ByteArray, codeV ds = .string b ∧ b.toList = (if validD ds then codeL ds (checkF ds) else []) := ⟨_, rfl, by simp⟩
    have HB := Lib.hid hB
    have HBL := Lib.hid hBl
    have hbb : (b.toList != b.toList) = false := by simp
    have hbb2 : (b.toList == b.toList) = true := by simp
    clear hB hBl
    go_wp2_with fail
    refine (impCodeText_any _ _ _ _ ho).mono ?_
    rintro e w2 ⟨rfl, hb2⟩
    rw [HB.out]
    have ho2 := ho.past hb2
    have hb12 := hb1.trans (hb2.mono hb1.size)
    by_cases hv : validD ds = true
    · have hBB : b.toList = codeL ds (checkF ds) := by rw [HBL.out, if_pos hv]
      have hrc := read_code hv
      have h4' : ds.length = 4 := by simp only [validD, Bool.and_eq_true, beq_iff_eq] at hv; exact hv.2
      have hem : b.toList.isEmpty = false := by rw [hBB]; simp [codeL]
      have hsz : b.size = 6 := by
        have : b.toList.length = 6 := by rw [hBB]; simp [codeL, h4']
        rw [ByteArray.toList_eq, Array.length_toList] at this; exact this
      have hrd := fun W => impReadCode_any b W
      unfold readTwo at hrd
      rw [← ByteArray.toList_eq, hBB, hrc.1, hrc.2] at hrd
      have HRD := Lib.hid hrd
      have hs6 : ((b.size : Int) == 6) = true := by rw [hsz]; rfl
      clear hrd hsz hBB hrc hv h4'
      go_wp2_with fail
      refine (specCodeText_any _ _ _ _ ho2 (by omega)).mono ?_
      rintro e w3 ⟨rfl, n3, rfl⟩
      rw [HB.out]
      go_wp2_with fail
      refine (HRD.out _).mono ?_
      rintro e w4 ⟨A4, c4, rfl, ho4, hb4⟩
      have ho24 := (ho2.below (below_drewN (Below.refl _ _) n3)).past hb4
      go_wp2_with fail
      refine (equalInts_any _ _ _ _ _ _ _ ho4.row ho24 (by omega)).mono ?_
      rintro e w5 ⟨rfl, n5, rfl⟩
      have HE := Lib.hid (eqI_refl' ds)
      rw [HE.out]
      go_wp2_with fail
      go_ret
      exact ⟨rfl, below_drewN ((below_drewN hb12 n3).trans (hb4.mono hb12.size)) n5⟩
    · have hBB : b.toList = [] := by rw [HBL.out, if_neg hv]
      have hem : b.toList.isEmpty = true := by rw [hBB]; rfl
      clear hBB hv
      go_wp2_with fail
      refine (specCodeText_any _ _ _ _ ho2 (by omega)).mono ?_
      rintro e w3 ⟨rfl, n3, rfl⟩
      rw [HB.out]
      go_wp2_with fail
      refine (specCodeText_any _ _ _ (w2.drewN n3) (ho2.below (below_drewN (Below.refl _ _) n3)) (by omega)).mono ?_
      rintro e w4 ⟨rfl, n4, rfl⟩
      rw [HB.out]
      go_wp2_with fail
      go_ret
      exact ⟨rfl, below_drewN hb12 (n3 + n4)⟩
  · go_enter Try.func3, Try.ntmps3
    go_wp2
    go_ret
    exact ⟨rfl, Below.refl _ _⟩
end Go.Proofs.Ytempfagjbpnlcaa
