/- The walk of the law FnWalksGrow. No condition. -/
import Derived.Test.YtlgeoilnjgojnaaB11
namespace Go.Proofs.Ytlgeoilnjgojnaa
open Go.RowKit

set_option maxRecDepth 100000 in
set_option maxHeartbeats 4000000 in
theorem walksGrow_law (A : Option Addr) (c : Nat) (zs : List Int) (w : World) (hr : Own w 0 w.heap.size A (zs.map (Value.int .u8))) (hx : zs.length ≤ c ∧ c ≤ maxLen ∧ ∀ z ∈ zs, (Lit.int .u8 z).wf = true) :
    Calls Try.prog 5 #[.slice A zs.length c] w fun e w' => e = .returned (.bool true) ∧ Below w.heap.size w w' := by
  have hl : zs.length ≤ 9223372036854775807 := by have := hx.1; have := hx.2.1; unfold maxLen at this; omega
  have HX := Lib.hid hx
  clear hx
  by_cases h20 : zs.length ≤ 1048576
  · go_enter Try.func5, Try.ntmps5
    go_wp2_with fail
    refine (drawBestWalk_any _ _ _ _ hr HX.out).mono ?_
    rintro e w1 ⟨B, d, rs, x, rfl, ⟨hx0, hx1⟩, h6, hdc, htw, ho, hb1⟩
    have HM := Lib.hid (show ∀ r ∈ rs, r.length ≤ 1000000000 from fun r h => by have := htw r h; omega)
    clear htw
    obtain ⟨q, hq⟩ : ∃ q, leastV rs x = q := ⟨_, rfl⟩
    obtain ⟨q2, hq2⟩ : ∃ q2, leastV rs (x + 1) = q2 := ⟨_, rfl⟩
    have HQ := Lib.hid hq
    have HQ2 := Lib.hid hq2
    have hqq : (q != q) = false := by simp
    have hw1 : IntKind.i64.wrap (x + 1) = x + 1 := IntWalk.i64_in _ (by omega)
    clear hq hq2
    go_wp2_with fail
    refine (impBest_any _ _ _ _ _ ho HM.out).mono ?_
    rintro e w2 ⟨rfl, hb2⟩
    rw [HQ.out]
    have ho2 := ho.past hb2
    have hb12 := hb1.trans (hb2.mono hb1.size)
    clear ho hb2
    go_wp2_with fail
    refine (specBest_any _ _ _ _ _ ho2 (by omega) HM.out).mono ?_
    rintro e w3 ⟨rfl, hb3⟩
    rw [HQ.out]
    have ho3 := ho2.past hb3
    have hb13 := hb12.trans (hb3.mono hb12.size)
    clear ho2 hb3 hb12 hb1
    go_wp2_with fail
    refine (impBest_any _ _ _ _ _ ho3 HM.out).mono ?_
    rintro e w4 ⟨rfl, hb4⟩
    rw [HQ.out]
    have ho4 := ho3.past hb4
    have hb14 := hb13.trans (hb4.mono hb13.size)
    clear ho3 hb4 hb13
    go_wp2_with fail
    refine (impBest_any _ _ _ _ _ ho4 HM.out).mono ?_
    rintro e w5 ⟨rfl, hb5⟩
    rw [HQ2.out]
    have ho5 := ho4.past hb5
    have hb15 := hb14.trans (hb5.mono hb14.size)
    clear ho4 hb5 hb14 hw1 hqq
    by_cases hn : q < 0
    · go_wp2_with fail
      go_ret
      exact ⟨rfl, hb15⟩
    · by_cases hn2 : q2 < 0
      · go_wp2_with fail
        go_ret
        exact ⟨rfl, hb15⟩
      · have hv : (housesB rs && inR x 0 20) = true := by
          rcases hh : (housesB rs && inR x 0 20) with _ | _
          · have := leastV_no hh; have := HQ.out; omega
          · rfl
        have hv2 : (housesB rs && inR (x + 1) 0 20) = true := by
          rcases hh : (housesB rs && inR (x + 1) 0 20) with _ | _
          · have := leastV_no hh; have := HQ2.out; omega
          · rfl
        have HG := Lib.hid (least_grow hv hv2)
        have hbd := leastV_bd hv
        rw [HQ.out] at hbd
        simp only [Bool.and_eq_true] at hv
        have HB := Lib.hid hv.1
        clear hv hv2
        go_wp2_with fail
        go_loop [7, 8] (fun f i => ∃ (k : Nat) (m : Int), k ≤ rs.length ∧ i = .int .i64 k ∧ f = .int .i64 m ∧ 0 ≤ m ∧ m ≤ 1 ∧ sideH ((rs.take k).map hp) = m) (fun _ i => rs.length - (intOf i).toNat)
        case atStart => exact ⟨0, 0, by omega, rfl, rfl, by omega, by omega, rfl⟩
        case round =>
          obtain ⟨k, m, hk, rfl, rfl, hm0, hm1, hfm⟩ := hrel
          have HFM := Lib.hid hfm
          clear hfm
          by_cases hlt : k < rs.length
          · obtain ⟨p, s, b, o, b', o', c1, he, ⟨hp0, hp1, hs0, hs1⟩, rfl, q1, q3, q4, hb, hb'⟩ := ho5.house HB.out hlt
            have HFT := Lib.hid (sideH_take hlt he)
            clear he
            go_wp2_with fail
            go_round
            case rel => exact ⟨k + 1, max m s, by omega, by go_num, by first | rfl | (rw [max_if]) | (congr 1; rw [max_if]), by omega, by omega, by rw [HFT.out, HFM.out]⟩
            case measure => simp [intOf]; omega
          · have hk' : k = rs.length := by omega
            subst hk'
            have hz : q2 = q + 2 * m := by
              have h1 := HFM.out
              rw [List.take_length] at h1
              rw [← HQ2.out, HG.out, HQ.out, h1]
            have hze : (q2 == q + 2 * m) = true := beq_iff_eq.2 hz
            clear hz
            go_wp2_with fail
            go_ret
            exact ⟨rfl, hb15⟩
  · go_enter Try.func5, Try.ntmps5
    go_wp2
    go_ret
    exact ⟨rfl, Below.refl _ _⟩
end Go.Proofs.Ytlgeoilnjgojnaa
