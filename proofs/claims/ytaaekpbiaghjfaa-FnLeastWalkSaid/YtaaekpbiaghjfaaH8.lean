/- The walk of the law FnLeastWalk. No condition. -/
import Derived.Test.YtaaekpbiaghjfaaH7
namespace Go.Proofs.Ytaaekpbiaghjfaa
open Go.RowKit

set_option maxRecDepth 100000 in
set_option maxHeartbeats 2000000 in
theorem leastWalk_law (A : Option Addr) (c : Nat) (zs : List Int) (w : World) (hr : Own w 0 w.heap.size A (zs.map (Value.int .u8))) (hx : zs.length ≤ c ∧ c ≤ maxLen ∧ ∀ z ∈ zs, (Lit.int .u8 z).wf = true) :
    Calls Try.prog 7 #[.slice A zs.length c] w fun e w' => e = .returned (.bool true) ∧ Below w.heap.size w w' := by
  have hl : zs.length ≤ 9223372036854775807 := by have := hx.1; have := hx.2.1; unfold maxLen at this; omega
  have HX := Lib.hid hx
  clear hx
  by_cases h20 : zs.length ≤ 1048576
  · go_enter Try.func7, Try.ntmps7
    go_wp2_with fail
    refine (drawLeastWalk_any _ _ _ _ hr HX.out).mono ?_
    rintro e w1 ⟨B, d, rs, x, rfl, ⟨hx0, hx1⟩, h6, hdc, htw, ho, hb1⟩
    have HM := Lib.hid (show ∀ r ∈ rs, r.length ≤ 1000000000 from fun r h => by have := htw r h; omega)
    clear htw
    obtain ⟨q, hq⟩ : ∃ q, leastV rs x = q := ⟨_, rfl⟩
    have HQ := Lib.hid hq
    have hqq : (q != q) = false := by simp
    have hqe : (q == q) = true := by simp
    clear hq
    go_wp2_with fail
    refine (impLeast_any _ _ _ _ _ ho HM.out).mono ?_
    rintro e w2 ⟨rfl, hb2⟩
    rw [HQ.out]
    have ho2 := ho.past hb2
    go_wp2_with fail
    refine (specLeast_any _ _ _ _ _ ho2 (by omega) HM.out).mono ?_
    rintro e w' ⟨rfl, rfl⟩
    rw [HQ.out]
    have hb12 := hb1.trans (hb2.mono hb1.size)
    by_cases hv : (housesB rs && inR x 0 20) = true
    · have hnn := leastV_nn hv
      have htk := leastV_take hv (rs.length - 1)
      rw [HQ.out] at hnn htk
      have HTK := Lib.hid htk
      simp only [Bool.and_eq_true] at hv
      obtain ⟨hv1, hv2⟩ := hv
      have HV := Lib.hid hv1
      have HZ := Lib.hid (leastV_zero hv1)
      have HF := Lib.hid (farH_bd hv1)
      have HV2 := Lib.hid (leastV_nn (show (housesB (rs.take (rs.length - 1)) && inR x 0 20) = true by rw [housesB_take hv1, hv2]; rfl))
      clear hv1 hv2 htk
      go_wp2_with fail
      go_loop [6, 7] (fun f i => ∃ (k : Nat) (m : Int), k ≤ rs.length ∧ i = .int .i64 k ∧ f = .int .i64 m ∧ 0 ≤ m ∧ m ≤ 20 ∧ farH ((rs.take k).map hp) = m) (fun _ i => rs.length - (intOf i).toNat)
      case atStart => exact ⟨0, 0, by omega, rfl, rfl, by omega, by omega, rfl⟩
      case round =>
        obtain ⟨k, m, hk, rfl, rfl, hm0, hm1, hfm⟩ := hrel
        have HFM := Lib.hid hfm
        clear hfm
        by_cases hlt : k < rs.length
        · obtain ⟨p, s, b, o, b', o', c1, he, ⟨hp0, hp1, hs0, hs1⟩, rfl, q1, q2, q3, hb, hb'⟩ := ho2.house HV.out hlt
          have HFT := Lib.hid (farH_take hlt he)
          clear he
          go_wp2_with fail
          go_round
          case rel => exact ⟨k + 1, _, by omega, by go_num, rfl, by split <;> omega, by split <;> omega, by rw [HFT.out, HFM.out]; exact max_if _ _⟩
          case measure => simp [intOf]; omega
        · have hk' : k = rs.length := by omega
          subst hk'
          have hz : leastV rs 0 = 2 * m := by
            have h1 := HFM.out
            rw [List.take_length] at h1
            rw [HZ.out, h1]
          have HZM := Lib.hid hz
          have hmm : (2 * m == 2 * m) = true := by simp
          clear hz
          go_wp2_with fail
          refine (impLeast_any _ _ _ _ _ ho2 HM.out).mono ?_
          rintro e w3 ⟨rfl, hb3⟩
          rw [HZM.out]
          have ho3 := ho2.past hb3
          have hb13 := hb12.trans (hb3.mono hb12.size)
          by_cases h0 : rs.length = 0
          · have h1 : ((rs.length : Int) == 0) = true := beq_iff_eq.2 (by omega)
            clear h0
            go_wp2_with fail
            go_ret
            exact ⟨rfl, hb13⟩
          · have h1 : ((rs.length : Int) == 0) = false := beq_eq_false_iff_ne.2 (by omega)
            have hpos : 0 < rs.length := by omega
            obtain ⟨b, o, R, cR, rfl, _, _, _, _⟩ := ho3.open hpos
            obtain ⟨n, hn⟩ : ∃ n, n = rs.length - 1 := ⟨_, rfl⟩
            have hsub : (rs.length : Int) - 1 = (n : Int) := by omega
            have hw : IntKind.i64.wrap ((rs.length : Int) - 1) = (n : Int) := by rw [hsub]; exact IntWalk.i64_in _ (by omega)
            have hsl := slice_uptoR b o rs.length d n (by omega)
            have hml : (rs.take n).length = n := by rw [List.length_take]; omega
            obtain ⟨y, hy⟩ : ∃ y, leastV (rs.take n) x = y := ⟨_, rfl⟩
            have hi := impLeast_any (some ⟨b, o, none⟩) d (rs.take n) x w3 (ho3.take n) (fun r h => HM.out r (List.mem_of_mem_take h))
            have hyq := HTK.out
            rw [← hn, hy] at hyq
            rw [hml, hy] at hi
            have HI := Lib.hid hi
            clear h0 hn hml hi hy
            go_wp2_with fail
            refine HI.out.mono ?_
            rintro e w4 ⟨rfl, hb4⟩
            clear hsub hw hsl
            go_wp2_with fail
            go_ret
            exact ⟨rfl, hb13.trans (hb4.mono hb13.size)⟩
    · have hv' : (housesB rs && inR x 0 20) = false := by simpa using hv
      have hq1 : q = -1 := by rw [← HQ.out]; exact leastV_no hv'
      have hneg : q < 0 := by omega
      clear hv hv' hq1
      go_wp2_with fail
      refine (specLeast_any _ _ _ _ _ ho2 (by omega) HM.out).mono ?_
      rintro e w' ⟨rfl, rfl⟩
      rw [HQ.out]
      go_wp2_with fail
      go_ret
      exact ⟨rfl, hb12⟩
  · go_enter Try.func7, Try.ntmps7
    go_wp2
    go_ret
    exact ⟨rfl, Below.refl _ _⟩
end Go.Proofs.Ytaaekpbiaghjfaa
