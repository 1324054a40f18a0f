/- The walk of the law FnWalkOf. No condition. -/
import Derived.Test.YtaaekpbiaghjfaaW1
import Derived.Test.YtaaekpbiaghjfaaH10
import Derived.Test.YtaaekpbiaghjfaaH7
import Derived.Test.YtaaekpbiaghjfaaS10
namespace Go.Proofs.Ytaaekpbiaghjfaa
open Go.RowKit

theorem walkB_rev {rs : List (List Int)} {zs : List Int} {x : Int} (h : walkB rs zs x = true) : walkB rs zs.reverse x = true := by
  simp only [walkB, Bool.and_eq_true, decide_eq_true_eq, List.length_reverse] at h ⊢
  exact ⟨h.1, h.2.1, rowB_rev h.2.2⟩

set_option maxRecDepth 100000 in
theorem drawWalkOf_any (A : Option Addr) (c : Nat) (zs : List Int) (w : World) (hr : Own w 0 w.heap.size A (zs.map (Value.int .u8))) (hx : zs.length ≤ c ∧ c ≤ maxLen ∧ ∀ z ∈ zs, (Lit.int .u8 z).wf = true) :
    Calls Try.prog 17 #[.slice A zs.length c] w fun e w' => ∃ (A : Option Addr) (c : Nat) (rs : List (List Int)) (B : Option Addr) (d : Nat) (os : List Int) (x : Int), e = .returned (.tuple #[.slice A rs.length c, .slice B os.length d, .int .i64 x]) ∧ (-1 ≤ x ∧ x ≤ 21) ∧ (os.length = rs.length ∧ os.length ≤ d ∧ Ints w' w'.heap.size B os) ∧ Drawn w A c rs w' := by
  have H := Lib.hid hx
  clear hx
  go_enter Try.func17, Try.ntmps17
  go_wp2_with fail
  refine (newReader_any _ _ _ _ hr H.out).mono ?_
  rintro e w1 ⟨rfl, hrd, hb1⟩
  go_wp2_with fail
  refine (someHouses_any _ 0 _ hrd (by omega)).mono ?_
  rintro e w2 ⟨A2, c2, rs, rfl, h6, hc, htw, hm, ⟨q, hq, hrd2⟩, hg⟩
  have HTW := Lib.hid htw
  have HM := Lib.hid hm
  have HG := Lib.hid hg
  have hz1 := hrd.lt
  have hz12 := hg.size
  clear htw hm hg
  go_wp2_with fail
  refine (rowOf_any _ q (rs.length : Int) w2 hrd2 (by omega) (by omega)).mono ?_
  rintro e w3 ⟨B, d, os, rfl, hol, hod, hob, ⟨q3, hq3, hrd3⟩, hg3⟩
  have hol' : os.length = rs.length := by omega
  have HOL := Lib.hid hol'
  have hm3 := (HM.out.apart (Nat.le_refl _) hg3 (fun i hi => by injection hi with hi; omega)).more hg3.size
  have HM3 := Lib.hid (And.intro hm3 (And.intro hob (grown_trans HG.out hg3)))
  have hz23 := hg3.size
  clear hol hol' hob hm3 hg3
  go_wp2_with fail
  refine (one_lit _ q3 w3 hrd3 (by omega) [3, 1, 0, 20, 21, -1] (by decide) (by decide) 6 rfl _ rfl).mono ?_
  rintro e w4 ⟨x, rfl, hx, _, hg4⟩
  have hxb : -1 ≤ x ∧ x ≤ 21 := by simp at hx; omega
  have HF := Lib.hid (show Drawn w A2 c2 rs w4 from ⟨h6, hc, HTW.out, ((HM3.out.1.apart (Nat.le_refl _) hg4 (fun i hi => by injection hi with hi; omega)).more hg4.size).row, hb1.grown (grown_trans HM3.out.2.2 hg4) hb1.size (fun k hk => by injection hk with hk; omega)⟩)
  have HO := Lib.hid ((HM3.out.2.1.apart (Nat.le_refl _) hg4 (fun i hi => by injection hi with hi; omega)).more hg4.size).row
  have HXB := Lib.hid hxb
  clear hx hg4 hxb
  go_wp2_with fail
  go_ret3
  exact ⟨A2, c2, rs, B, d, os, x, rfl, HXB.out, ⟨HOL.out, hod, HO.out⟩, HF.out⟩

set_option maxRecDepth 100000 in
set_option maxHeartbeats 2000000 in
theorem walkOf_law (A : Option Addr) (c : Nat) (zs : List Int) (w : World) (hr : Own w 0 w.heap.size A (zs.map (Value.int .u8))) (hx : zs.length ≤ c ∧ c ≤ maxLen ∧ ∀ z ∈ zs, (Lit.int .u8 z).wf = true) :
    Calls Try.prog 4 #[.slice A zs.length c] w fun e w' => e = .returned (.bool true) ∧ Below w.heap.size w w' := by
  have hl : zs.length ≤ 9223372036854775807 := by have := hx.1; have := hx.2.1; unfold maxLen at this; omega
  have HX := Lib.hid hx
  clear hx
  by_cases h20 : zs.length ≤ 1048576
  · go_enter Try.func4, Try.ntmps4
    go_wp2_with fail
    refine (drawWalkOf_any _ _ _ _ hr HX.out).mono ?_
    rintro e w1 ⟨A1, c1, rs, B, d, os, x, rfl, ⟨hx0, hx1⟩, ⟨hol, hod, hob⟩, h6, hdc, htw, ho, hb1⟩
    have HM := Lib.hid (show ∀ r ∈ rs, r.length ≤ 1000000000 from fun r h => by have := htw r h; omega)
    have hol6 : os.length ≤ 6 := by omega
    clear htw hol
    obtain ⟨q, hq⟩ : ∃ q, walkV rs os x = q := ⟨_, rfl⟩
    have HQ := Lib.hid hq
    have hqq : (q != q) = false := by simp
    have hqe : (q == q) = true := by simp
    clear hq
    go_wp2_with fail
    refine (impWalk_any _ _ _ _ _ _ _ _ ho HM.out hob hod).mono ?_
    rintro e w2 ⟨rfl, hb2⟩
    rw [HQ.out]
    have ho2 := ho.past hb2
    have hob2 := hob.past hb2
    clear ho hob
    go_wp2_with fail
    refine (specWalk_any _ _ _ _ _ _ _ _ ho2 hob2 (by omega) HM.out (by omega)).mono ?_
    rintro e w3 ⟨rfl, hb3⟩
    rw [HQ.out]
    have ho3 := ho2.past hb3
    have hob3 := hob2.past hb3
    clear ho2 hob2
    have hb13 := (hb1.trans (hb2.mono hb1.size)).trans (hb3.mono (by have := hb1.size; have := hb2.size; omega))
    by_cases hv : walkB rs os x = true
    · have hge := walkV_ge hv
      have hv' := hv
      simp only [walkB, Bool.and_eq_true] at hv'
      have hnn := leastV_nn (show (housesB rs && inR x 0 20) = true by rw [hv'.1.1, hv'.1.2]; rfl)
      rw [HQ.out] at hge
      have hq0 : 0 ≤ q := by omega
      have hrev : walkV rs os.reverse x = q := by rw [← HQ.out, walkV_yes hv, walkV_yes (walkB_rev hv), walkTot_rev]
      have HRV := Lib.hid hrev
      have HGE := Lib.hid hge
      clear hv hv' hnn hge hrev
      go_wp2_with fail
      refine (backwards_any _ _ _ _ hob3 (by omega)).mono ?_
      rintro e w4 ⟨A4, c4, rfl, hc4, ho4, hb4⟩
      have ho3' := ho3.past hb4
      have hi := impWalk_any A1 c1 rs A4 c4 os.reverse x w4 ho3' HM.out ho4.row (by rw [List.length_reverse]; exact hc4)
      rw [List.length_reverse, HRV.out] at hi
      have HI := Lib.hid hi
      have hb14 := hb13.trans (hb4.mono hb13.size)
      clear hi ho4 ho3
      go_wp2_with fail
      refine HI.out.mono ?_
      rintro e w5 ⟨rfl, hb5⟩
      have ho5 := ho3'.past hb5
      have hb15 := hb14.trans (hb5.mono hb14.size)
      obtain ⟨y, hy⟩ : ∃ y, leastV rs x = y := ⟨_, rfl⟩
      have hyq : y ≤ q := by rw [← hy]; exact HGE.out
      have HY := Lib.hid hy
      clear hy ho3'
      go_wp2_with fail
      refine (impLeast_any _ _ _ _ _ ho5 HM.out).mono ?_
      rintro e w6 ⟨rfl, hb6⟩
      rw [HY.out]
      go_wp2_with fail
      go_ret
      exact ⟨rfl, hb15.trans (hb6.mono hb15.size)⟩
    · have hv' : walkB rs os x = false := by simpa using hv
      have hq1 : q = -1 := by rw [← HQ.out]; exact walkV_no hv'
      have hneg : q < 0 := by omega
      clear hv hv' hq1
      go_wp2_with fail
      refine (specWalk_any _ _ _ _ _ _ _ _ ho3 hob3 (by omega) HM.out (by omega)).mono ?_
      rintro e w4 ⟨rfl, hb4⟩
      rw [HQ.out]
      go_wp2_with fail
      go_ret
      exact ⟨rfl, hb13.trans (hb4.mono hb13.size)⟩
  · go_enter Try.func4, Try.ntmps4
    go_wp2
    go_ret
    exact ⟨rfl, Below.refl _ _⟩
end Go.Proofs.Ytaaekpbiaghjfaa
