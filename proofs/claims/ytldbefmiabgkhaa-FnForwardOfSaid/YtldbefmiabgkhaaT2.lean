/- Answers: spec.validThreads, impl.areAnswers. No condition. -/
import Derived.Test.YtldbefmiabgkhaaT0
import Derived.Test.YtldbefmiabgkhaaOwn
namespace Go.Proofs.Ytldbefmiabgkhaa
open Go.RowKit

theorem inRange_is {x lo hi : Int} {b : Bool} (h : inR x lo hi = b) (X : World) : Calls Try.prog 38 #[.int .i64 x, .int .i64 lo, .int .i64 hi] X fun e w' => e = .returned (.bool b) ∧ X = w' := by
  rw [← h]; exact inRange_any x lo hi X

set_option maxRecDepth 100000 in
set_option maxHeartbeats 2000000 in
theorem validThreads_any (A : Option Addr) (c : Nat) (zs : List Int) (w : World) (hr : Ints w w.heap.size A zs) (hl : zs.length ≤ 1000000000) :
    Calls Try.prog 42 #[.slice A zs.length c] w fun e w' => e = .returned (.bool (ansB zs)) ∧ w = w' := by
  go_enter Try.func42, Try.ntmps42
  go_wp2
  go_loop [3] (fun i => ∃ k : Nat, k ≤ zs.length ∧ i = .int .i64 k ∧ Hid ((List.range k).all (okA zs) = true)) (fun i => zs.length - (intOf i).toNat)
  case atStart => exact ⟨0, by omega, rfl, Lib.hid (by simp)⟩
  case round =>
    obtain ⟨k, hk, rfl, HA⟩ := hrel
    by_cases hlt : k < zs.length
    · obtain ⟨b, o, rfl, hb, hc⟩ := hr.open (by simp; omega)
      have hcell := ints_at hc hlt
      have HN := Lib.hid (ans_no hlt)
      have HZ := Lib.hid (getD_get hlt)
      have hkI : (k : Int) < zs.length := by omega
      obtain ⟨z, hz⟩ : ∃ z, zs[k] = z := ⟨_, rfl⟩
      rw [hz] at hcell HZ
      have hwr : IntKind.i64.wrap ((k : Int) - 1) = (k : Int) - 1 := IntWalk.i64_in _ (by omega)
      have HOKE := Lib.hid (show okA zs k = inR z (-1) ((k : Int) - 1) by rw [okA, HZ.out])
      clear hc hz
      by_cases hin : inR z (-1) ((k : Int) - 1) = true
      · have HI := Lib.hid (inRange_is hin)
        have HAK := Lib.hid (show (List.range (k + 1)).all (okA zs) = true by rw [all_range_succ, HA.out, HOKE.out, hin]; rfl)
        clear hin
        go_wp2_with (go_at_call 38; (with_reducible refine (HI.out _).mono ?_); rintro e w' ⟨rfl, rfl⟩)
        go_round
        case rel => exact ⟨k + 1, by omega, by go_num, HAK⟩
        case measure => simp [intOf]; omega
      · have hin' : inR z (-1) ((k : Int) - 1) = false := by simpa using hin
        have HI := Lib.hid (inRange_is hin')
        have HF := Lib.hid (HN.out (by rw [HOKE.out, hin']))
        clear hin hin'
        go_wp2_with (go_at_call 38; (with_reducible refine (HI.out _).mono ?_); rintro e w' ⟨rfl, rfl⟩)
        go_ret
        exact ⟨ret_bool HF.out.symm, rfl⟩
    · have hk' : k = zs.length := by omega
      subst hk'
      by_cases h9 : zs.length ≤ 9
      · have HF := Lib.hid (show ansB zs = true by rw [ansB, HA.out, decide_eq_true h9]; rfl)
        have hd : decide ((zs.length : Int) ≤ 9) = true := decide_eq_true (by omega)
        clear h9
        go_wp2
        go_ret
        exact ⟨ret_bool HF.out.symm, rfl⟩
      · have HF := Lib.hid (ans_long h9)
        have hd : decide ((zs.length : Int) ≤ 9) = false := decide_eq_false (by omega)
        clear h9
        go_wp2
        go_ret
        exact ⟨ret_bool HF.out.symm, rfl⟩

set_option maxRecDepth 100000 in
set_option maxHeartbeats 2000000 in
theorem areAnswers_any (A : Option Addr) (c : Nat) (zs : List Int) (w : World) (hr : Ints w w.heap.size A zs) (hl : zs.length ≤ 1000000000) :
    Calls Try.prog 44 #[.slice A zs.length c] w fun e w' => e = .returned (.bool (ansB zs)) ∧ w = w' := by
  by_cases h9 : zs.length ≤ 9
  · have hd9 : decide ((9 : Int) < (zs.length : Int)) = false := decide_eq_false (by omega)
    have H9 := Lib.hid h9
    clear h9
    go_enter Try.func44, Try.ntmps44
    go_wp2
    clear hd9
    go_loop [10] (fun i => ∃ k : Nat, k ≤ zs.length ∧ i = .int .i64 k ∧ Hid ((List.range k).all (okA zs) = true)) (fun i => zs.length - (intOf i).toNat)
    case atStart => exact ⟨0, by omega, rfl, Lib.hid (by simp)⟩
    case round =>
      obtain ⟨k, hk, rfl, HA⟩ := hrel
      by_cases hlt : k < zs.length
      · obtain ⟨b, o, rfl, hb, hc⟩ := hr.open (by simp; omega)
        have hcell := ints_at hc hlt
        have HN := Lib.hid (ans_no hlt)
        have HZ := Lib.hid (getD_get hlt)
        have hkI : (k : Int) < zs.length := by omega
        obtain ⟨z, hz⟩ : ∃ z, zs[k] = z := ⟨_, rfl⟩
        rw [hz] at hcell HZ
        have HOKE := Lib.hid (show okA zs k = inR z (-1) ((k : Int) - 1) by rw [okA, HZ.out])
        clear hc hz
        by_cases hm : z = -1
        · have HAK := Lib.hid (show (List.range (k + 1)).all (okA zs) = true by rw [all_range_succ, HA.out, HOKE.out, inR_iff.2 (by omega)]; rfl)
          have t0 : (z != -1) = false := by simp [hm]
          clear hm
          go_wp2
          go_round
          case rel => exact ⟨k + 1, by omega, by go_num, HAK⟩
          case measure => simp [intOf]; omega
        · have t0 : (z != -1) = true := by simp [hm]
          by_cases hneg : z < 0
          · have t1 : decide (z < 0) = true := decide_eq_true hneg
            have HF := Lib.hid (HN.out (by rw [HOKE.out]; simp [inR]; omega))
            clear hm hneg
            go_wp2
            go_ret
            exact ⟨ret_bool HF.out.symm, rfl⟩
          · have t1 : decide (z < 0) = false := decide_eq_false hneg
            by_cases hge : (k : Int) ≤ z
            · have t2 : decide ((k : Int) ≤ z) = true := decide_eq_true hge
              have HF := Lib.hid (HN.out (by rw [HOKE.out]; simp [inR]; omega))
              clear hm hneg hge
              go_wp2
              go_ret
              exact ⟨ret_bool HF.out.symm, rfl⟩
            · have t2 : decide ((k : Int) ≤ z) = false := decide_eq_false hge
              have HAK := Lib.hid (show (List.range (k + 1)).all (okA zs) = true by rw [all_range_succ, HA.out, HOKE.out, inR_iff.2 (by omega)]; rfl)
              clear hm hneg hge
              go_wp2
              go_round
              case rel => exact ⟨k + 1, by omega, by go_num, HAK⟩
              case measure => simp [intOf]; omega
      · have hk' : k = zs.length := by omega
        subst hk'
        have HF := Lib.hid (show ansB zs = true by rw [ansB, HA.out, decide_eq_true H9.out]; rfl)
        go_wp2
        go_ret
        exact ⟨ret_bool HF.out.symm, rfl⟩
  · have HF := Lib.hid (ans_long h9)
    have hd : decide ((9 : Int) < (zs.length : Int)) = true := decide_eq_true (by omega)
    clear h9
    go_enter Try.func44, Try.ntmps44
    go_wp2
    go_ret
    exact ⟨ret_bool HF.out.symm, rfl⟩
end Go.Proofs.Ytldbefmiabgkhaa
