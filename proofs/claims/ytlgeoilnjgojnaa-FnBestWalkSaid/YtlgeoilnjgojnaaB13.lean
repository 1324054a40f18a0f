/- The walk of the law FnBestWalk. No condition. -/
import Derived.Test.YtlgeoilnjgojnaaB11
import Derived.Test.YtlgeoilnjgojnaaO4
import Derived.Test.YtlgeoilnjgojnaaH10
namespace Go.Proofs.Ytlgeoilnjgojnaa
open Go.RowKit

set_option maxRecDepth 100000 in
set_option maxHeartbeats 4000000 in
theorem bestWalk_law (A : Option Addr) (c : Nat) (zs : List Int) (w : World) (hr : Own w 0 w.heap.size A (zs.map (Value.int .u8))) (hx : zs.length ≤ c ∧ c ≤ maxLen ∧ ∀ z ∈ zs, (Lit.int .u8 z).wf = true) :
    Calls Try.prog 4 #[.slice A zs.length c] w fun e w' => e = .returned (.bool true) ∧ Below w.heap.size w w' := by
  have hl : zs.length ≤ 9223372036854775807 := by have := hx.1; have := hx.2.1; unfold maxLen at this; omega
  have HX := Lib.hid hx
  clear hx
  by_cases h20 : zs.length ≤ 1048576
  · go_enter Try.func4, Try.ntmps4
    go_wp2_with fail
    refine (drawBestWalk_any _ _ _ _ hr HX.out).mono ?_
    rintro e w1 ⟨B, d, rs, x, rfl, ⟨hx0, hx1⟩, h6, hdc, htw, ho, hb1⟩
    have HM := Lib.hid (show ∀ r ∈ rs, r.length ≤ 1000000000 from fun r h => by have := htw r h; omega)
    clear htw
    obtain ⟨q, hq⟩ : ∃ q, leastV rs x = q := ⟨_, rfl⟩
    have HQ := Lib.hid hq
    have hqq : (q != q) = false := by simp
    have hqe : (q == q) = true := by simp
    clear hq
    go_wp2_with fail
    refine (impBest_any _ _ _ _ _ ho HM.out).mono ?_
    rintro e w2 ⟨rfl, hb2⟩
    rw [HQ.out]
    have ho2 := ho.past hb2
    have hb12 := hb1.trans (hb2.mono hb1.size)
    clear ho hb2
    go_wp2_with fail
    refine (specBest_any _ _ _ _ _ ho2 (by omega) HM.out).mono ?_
    rintro e w3 ⟨rfl, hb3⟩
    rw [HQ.out]
    have ho3 := ho2.past hb3
    have hb13 := hb12.trans (hb3.mono hb12.size)
    clear ho2 hb3 hb12 hb1
    by_cases hv : (housesB rs && inR x 0 20) = true
    · have hnn := leastV_nn hv
      rw [HQ.out] at hnn
      have hlw := loop_walk hv
      rw [HQ.out] at hlw
      have htw := turn_walk hv
      rw [HQ.out] at htw
      have hOL : orderV rs ⟨#[108, 111, 111, 112]⟩ = ordL (ltH rs true) rs.length := by
        simp only [Bool.and_eq_true] at hv
        rw [orderV_yes (by simp only [orderB, hv.1, show isLoop ⟨#[108, 111, 111, 112]⟩ = true by decide +kernel, Bool.true_or, Bool.and_self]), show isLoop ⟨#[108, 111, 111, 112]⟩ = true by decide +kernel]
      have hOT : orderV rs ⟨#[116, 117, 114, 110]⟩ = ordL (ltH rs false) rs.length := by
        simp only [Bool.and_eq_true] at hv
        rw [orderV_yes (by simp only [orderB, hv.1, show isTurn ⟨#[116, 117, 114, 110]⟩ = true by decide +kernel, Bool.or_true, Bool.and_self]), show isLoop ⟨#[116, 117, 114, 110]⟩ = false by decide +kernel]
      obtain ⟨L1, hL1⟩ : ∃ L1, ordL (ltH rs true) rs.length = L1 := ⟨_, rfl⟩
      obtain ⟨L2, hL2⟩ : ∃ L2, ordL (ltH rs false) rs.length = L2 := ⟨_, rfl⟩
      rw [hL1] at hlw hOL
      rw [hL2] at htw hOT
      obtain ⟨t, ht⟩ : ∃ t, walkV rs L2 x = t := ⟨_, rfl⟩
      rw [ht] at htw
      have HOL := Lib.hid (And.intro hOL (And.intro hlw (And.intro hOT ht)))
      clear hv hlw hOL hOT hL1 hL2 ht
      go_wp2_with fail
      refine (impOrder_any _ _ rs ⟨#[108, 111, 111, 112]⟩ _ ho3 HM.out).mono ?_
      rintro e w4 ⟨A4, c4, rfl, hc4, ho4, hb4⟩
      rw [HOL.out.1] at hc4 ho4 ⊢
      have ho5 := ho3.past hb4
      have hb14 := hb13.trans (hb4.mono hb13.size)
      clear ho3 hb4 hb13
      go_wp2_with fail
      refine (impWalk_any _ _ _ _ _ _ _ _ ho5 HM.out ho4.row hc4).mono ?_
      rintro e w5 ⟨rfl, hb5⟩
      rw [HOL.out.2.1]
      have ho6 := ho5.past hb5
      have hb15 := hb14.trans (hb5.mono hb14.size)
      clear ho5 hb5 hb14 ho4
      go_wp2_with fail
      refine (impOrder_any _ _ rs ⟨#[116, 117, 114, 110]⟩ _ ho6 HM.out).mono ?_
      rintro e w6 ⟨A6, c6, rfl, hc6, ho7, hb6⟩
      rw [HOL.out.2.2.1] at hc6 ho7 ⊢
      have ho8 := ho6.past hb6
      have hb16 := hb15.trans (hb6.mono hb15.size)
      clear ho6 hb6 hb15
      go_wp2_with fail
      refine (impWalk_any _ _ _ _ _ _ _ _ ho8 HM.out ho7.row hc6).mono ?_
      rintro e w7 ⟨rfl, hb7⟩
      rw [HOL.out.2.2.2]
      have ho9 := ho8.past hb7
      have hb17 := hb16.trans (hb7.mono hb16.size)
      clear ho8 hb7 hb16 ho7
      go_wp2_with fail
      refine (impLeast_any _ _ _ _ _ ho9 HM.out).mono ?_
      rintro e w8 ⟨rfl, hb8⟩
      rw [HQ.out]
      go_wp2_with fail
      go_ret
      exact ⟨rfl, hb17.trans (hb8.mono hb17.size)⟩
    · have hv' : (housesB rs && inR x 0 20) = false := by simpa using hv
      have hq1 : q = -1 := by rw [← HQ.out]; exact leastV_no hv'
      have hneg : q < 0 := by omega
      clear hv hv' hq1
      go_wp2_with fail
      refine (specBest_any _ _ _ _ _ ho3 (by omega) HM.out).mono ?_
      rintro e w4 ⟨rfl, hb4⟩
      rw [HQ.out]
      go_wp2_with fail
      go_ret
      exact ⟨rfl, hb13.trans (hb4.mono hb13.size)⟩
  · go_enter Try.func4, Try.ntmps4
    go_wp2
    go_ret
    exact ⟨rfl, Below.refl _ _⟩
end Go.Proofs.Ytlgeoilnjgojnaa
