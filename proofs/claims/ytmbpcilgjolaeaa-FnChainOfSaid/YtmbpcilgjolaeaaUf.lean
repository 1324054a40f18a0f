/- The walks of the laws FnValidRates and FnIsFair. No condition. -/
import Derived.Test.YtmbpcilgjolaeaaUe
namespace Go.Proofs.Ytmbpcilgjolaeaa
open Go.RowKit

theorem mat_short {n : Nat} {D : Nat → Nat → Int} (hn : n ≤ 5) : ∀ r ∈ mat n D, r.length ≤ 1000000000 := fun r hr => by rw [mat_rows hr]; omega
theorem impVR_turn {n : Nat} {D : Nat → Nat → Int} {A : Option Addr} {c : Nat} {w : World} (hr : Grid w 0 w.heap.size A (mat n D)) (hm : RM n D) :
    Calls Try.prog 18 #[.slice A n c] w fun e w' => e = .returned (.bool true) ∧ w = w' := by
  have h := impValidRates_any A c (mat n D) w hr (mat_short hm.n5)
  rwa [mat_len, ratesB_mat hm] at h

set_option maxRecDepth 100000 in
set_option maxHeartbeats 1000000 in
theorem validRates_law (A : Option Addr) (c : Nat) (zs : List Int) (w : World) (hr : Own w 0 w.heap.size A (zs.map (Value.int .u8))) (hx : zs.length ≤ c ∧ c ≤ maxLen ∧ ∀ z ∈ zs, (Lit.int .u8 z).wf = true) :
    Calls Try.prog 8 #[.slice A zs.length c] w fun e w' => e = .returned (.bool true) ∧ Below w.heap.size w w' := by
  have hl : zs.length ≤ 9223372036854775807 := by have := hx.1; have := hx.2.1; unfold maxLen at this; omega
  have HX := Lib.hid hx
  clear hx
  by_cases h20 : zs.length ≤ 1048576
  · go_enter Try.func8, Try.ntmps8
    go_wp2_with fail
    refine (drawValidRates_any _ _ _ _ hr HX.out).mono ?_
    rintro e w1 ⟨B, d, rs, rfl, ⟨h1, h6⟩, hdc, hsh, ho, hb1⟩
    have HM := Lib.hid hsh
    have HB := Lib.hid hb1
    clear hsh hb1
    cases hv : ratesB rs with
    | true =>
      have HV := Lib.hid hv
      obtain ⟨e1, e2⟩ := rates_parts hv
      have HRM := Lib.hid e2
      have hfl := flipped_any B d rs.length (cellOf rs) w1 (by rw [← e1]; exact ho) e2.n1 e2.n5
      have HFL := Lib.hid hfl
      clear hv e1 e2 hfl
      go_wp2_with fail
      refine (impValidRates_any _ _ _ _ ho HM.out).mono ?_
      rintro e w2 ⟨rfl, rfl⟩
      rw [HV.out]
      go_wp2_with fail
      refine (specValidRates_any _ _ _ _ ho (by omega) HM.out).mono ?_
      rintro e wS ⟨rfl, rfl⟩
      rw [HV.out]
      go_wp2_with fail
      refine HFL.out.mono ?_
      rintro e w3 ⟨A3, c3, rfl, hc3, hm3, hb3⟩
      rw [mat_len]
      have HB3 := Lib.hid (HB.out.trans (hb3.mono HB.out.size))
      have HG := Lib.hid hm3.row
      clear hc3 hm3 hb3
      go_wp2_with fail
      refine (impVR_turn HG.out HRM.out.turn).mono ?_
      rintro e w4 ⟨rfl, rfl⟩
      go_wp2_with fail
      go_ret
      exact ⟨rfl, HB3.out⟩
    | false =>
      have HV := Lib.hid hv
      clear hv
      go_wp2_with fail
      refine (impValidRates_any _ _ _ _ ho HM.out).mono ?_
      rintro e w2 ⟨rfl, rfl⟩
      rw [HV.out]
      go_wp2_with fail
      refine (specValidRates_any _ _ _ _ ho (by omega) HM.out).mono ?_
      rintro e wS ⟨rfl, rfl⟩
      rw [HV.out]
      go_wp2_with fail
      refine (specValidRates_any _ _ _ _ ho (by omega) HM.out).mono ?_
      rintro e wS ⟨rfl, rfl⟩
      rw [HV.out]
      go_wp2_with fail
      go_ret
      exact ⟨rfl, HB.out⟩
  · go_enter Try.func8, Try.ntmps8
    go_wp2
    go_ret
    exact ⟨rfl, Below.refl _ _⟩

theorem fairV_no {rs : List (List Int)} (h : ratesB rs = false) : fairV rs = false := by rw [fairV, h, Bool.false_and]
theorem fair_turn {n : Nat} {D : Nat → Nat → Int} : decide (Fair n (fun i k => D k i)) = decide (Fair n D) := by
  rw [Bool.eq_iff_iff, decide_eq_true_iff, decide_eq_true_iff]
  exact ⟨fun h => h.turn, fun h => h.turn⟩
theorem fairV_mat {n : Nat} {D : Nat → Nat → Int} (h : RM n D) : fairV (mat n D) = decide (Fair n D) := by
  rw [fairV, ratesB_mat h, Bool.true_and, mat_len, Bool.eq_iff_iff, decide_eq_true_iff, decide_eq_true_iff]
  exact ⟨fun hf => hf.congr fun i k hi hk => (cell_mat hi hk).symm, fun hf => hf.congr fun i k hi hk => cell_mat hi hk⟩
theorem impFair_mat {n : Nat} {D : Nat → Nat → Int} {A : Option Addr} {c : Nat} {w : World} (hr : Grid w 0 w.heap.size A (mat n D)) (hm : RM n D) :
    Calls Try.prog 25 #[.slice A n c] w fun e w' => e = .returned (.bool (decide (Fair n D))) ∧ Below w.heap.size w w' := by
  have h := impIsFair_any A c (mat n D) w hr (mat_short hm.n5)
  rwa [mat_len, fairV_mat hm] at h

set_option maxRecDepth 100000 in
set_option maxHeartbeats 1000000 in
theorem isFair_law (A : Option Addr) (c : Nat) (zs : List Int) (w : World) (hr : Own w 0 w.heap.size A (zs.map (Value.int .u8))) (hx : zs.length ≤ c ∧ c ≤ maxLen ∧ ∀ z ∈ zs, (Lit.int .u8 z).wf = true) :
    Calls Try.prog 10 #[.slice A zs.length c] w fun e w' => e = .returned (.bool true) ∧ Below w.heap.size w w' := by
  have hl : zs.length ≤ 9223372036854775807 := by have := hx.1; have := hx.2.1; unfold maxLen at this; omega
  have HX := Lib.hid hx
  clear hx
  by_cases h20 : zs.length ≤ 1048576
  · go_enter Try.func10, Try.ntmps10
    go_wp2_with fail
    refine (drawIsFair_any _ _ _ _ hr HX.out).mono ?_
    rintro e w1 ⟨B, d, rs, rfl, ⟨h1, h6⟩, hdc, hsh, ho, hb1⟩
    have HM := Lib.hid hsh
    have HB := Lib.hid hb1
    clear hsh hb1
    obtain ⟨f, hf⟩ : ∃ f, fairV rs = f := ⟨_, rfl⟩
    have HF := Lib.hid hf
    clear hf
    have hff : (f != f) = false := by simp
    have hfe : (f == f) = true := by simp
    go_wp2_with fail
    refine (impIsFair_any _ _ _ _ ho HM.out).mono ?_
    rintro e w2 ⟨rfl, hb2⟩
    rw [HF.out]
    have ho2 := ho.past hb2
    have HB2 := Lib.hid (HB.out.trans (hb2.mono HB.out.size))
    clear ho hb2
    go_wp2_with fail
    refine (specIsFair_any _ _ _ _ ho2 (by omega) HM.out).mono ?_
    rintro e w3 ⟨rfl, hb3⟩
    rw [HF.out]
    have ho3 := ho2.past hb3
    have HB3 := Lib.hid (HB2.out.trans (hb3.mono HB2.out.size))
    clear ho2 hb3
    cases hv : ratesB rs with
    | true =>
      have HV := Lib.hid hv
      obtain ⟨e1, e2⟩ := rates_parts hv
      have HRM := Lib.hid e2
      have hfl := flipped_any B d rs.length (cellOf rs) w3 (by rw [← e1]; exact ho3) e2.n1 e2.n5
      have HFL := Lib.hid hfl
      have hfd : decide (Fair rs.length (cellOf rs)) = f := by rw [← HF.out, fairV, hv, Bool.true_and]
      have HFD := Lib.hid hfd
      clear hv e1 e2 hfl hfd
      go_wp2_with fail
      refine (impValidRates_any _ _ _ _ ho3 HM.out).mono ?_
      rintro e w4 ⟨rfl, rfl⟩
      rw [HV.out]
      go_wp2_with fail
      refine HFL.out.mono ?_
      rintro e w4 ⟨A3, c3, rfl, hc3, hm3, hb4⟩
      rw [mat_len]
      have HB4 := Lib.hid (HB3.out.trans (hb4.mono HB3.out.size))
      have HG := Lib.hid hm3.row
      clear hc3 hm3 hb4
      go_wp2_with fail
      refine (impFair_mat HG.out HRM.out.turn).mono ?_
      rintro e w5 ⟨rfl, hb5⟩
      rw [fair_turn, HFD.out]
      have HB5 := Lib.hid (HB4.out.trans (hb5.mono HB4.out.size))
      clear hb5
      go_wp2_with fail
      go_ret
      exact ⟨rfl, HB5.out⟩
    | false =>
      have HV := Lib.hid hv
      clear hv
      go_wp2_with fail
      refine (impValidRates_any _ _ _ _ ho3 HM.out).mono ?_
      rintro e w4 ⟨rfl, rfl⟩
      rw [HV.out]
      go_wp2_with fail
      refine (specIsFair_any _ _ _ _ ho3 (by omega) HM.out).mono ?_
      rintro e w4 ⟨rfl, hb4⟩
      rw [HF.out]
      have HB4 := Lib.hid (HB3.out.trans (hb4.mono HB3.out.size))
      clear hb4
      go_wp2_with fail
      go_ret
      exact ⟨rfl, HB4.out⟩
  · go_enter Try.func10, Try.ntmps10
    go_wp2
    go_ret
    exact ⟨rfl, Below.refl _ _⟩
end Go.Proofs.Ytmbpcilgjolaeaa
