/- Rates: ValidRates on both sides. No condition. -/
import Derived.Test.YtmbpcilgjolaeaaU0
import Derived.Test.YtmbpcilgjolaeaaEx
import Derived.Test.YtmbpcilgjolaeaaG6
namespace Go.Proofs.Ytmbpcilgjolaeaa
open Go.RowKit

set_option maxRecDepth 100000 in
set_option maxHeartbeats 2000000 in
theorem validRates_low (A : Option Addr) (c : Nat) (rs : List (List Int)) (w : World) (hr : Grid w 0 w.heap.size A rs) (hl : rs.length ≤ 1000000000) (hs : ∀ r ∈ rs, r.length ≤ 1000000000) :
    Calls Try.prog 44 #[.slice A rs.length c] w fun e w' => e = .returned (.bool (ratesB rs)) ∧ w = w' := by
  have HS := Lib.hid hs
  clear hs
  go_enter Try.func44, Try.ntmps44
  go_wp2
  go_loop [3] (fun i => ∃ k : Nat, k ≤ rs.length ∧ i = .int .i64 k ∧ (List.range k).all (fun i => okRow rs.length i (rs.getD i [])) = true) (fun i => rs.length - (intOf i).toNat)
  case atStart => exact ⟨0, by omega, rfl, by simp⟩
  case round =>
    obtain ⟨i, hi, rfl, hall⟩ := hrel
    have HA := Lib.hid hall
    clear hall
    by_cases hlt : i < rs.length
    · obtain ⟨b, o, R, c1, rfl, hb, hcell, hc1, ho⟩ := hr.open hlt
      have HN := Lib.hid (rates_row hlt)
      have HGD := Lib.hid (getD_row hlt)
      have hsz := HS.out _ (List.getElem_mem hlt)
      obtain ⟨r, hre⟩ : ∃ r, rs[i] = r := ⟨_, rfl⟩
      rw [hre] at hcell ho hsz HN HGD
      have HLT := Lib.hid hlt
      clear hre hc1
      by_cases h2 : r.length = rs.length
      · have HRL := Lib.hid h2
        rw [h2] at hcell
        clear h2 hsz
        have hne : ((rs.length : Int) != (rs.length : Int)) = false := by simp
        go_wp2_with fail
        go_loop [4] (fun v => ∃ k : Nat, k ≤ rs.length ∧ v = .int .i64 k ∧ (List.range k).all (okRt i r) = true) (fun v => rs.length - (intOf v).toNat)
        case atStart => exact ⟨0, by omega, rfl, by simp⟩
        case round =>
          obtain ⟨k, hk, rfl, hall⟩ := hrel
          have HAK := Lib.hid hall
          clear hall hne
          by_cases hlk : k < rs.length
          · obtain ⟨b', o', rfl, hb', hc'⟩ := ho.open (by simp; rw [HRL.out]; omega)
            have hkr : k < r.length := by rw [HRL.out]; exact hlk
            have q0 := ints_at hc' hkr
            obtain ⟨x, hx⟩ : ∃ x, r[k] = x := ⟨_, rfl⟩
            rw [hx] at q0
            have HX := Lib.hid (show r.getD k 0 = x by rw [getD_get hkr, hx])
            clear hc' hx hkr
            by_cases i0 : inR x 0 140 = true
            · have HI := Lib.hid (show ∀ X, Calls Try.prog 50 #[.int .i64 x, .int .i64 0, .int .i64 140] X fun e w' => e = .returned (.bool true) ∧ X = w' from fun X => by have := inRange_any x 0 140 X; rw [i0] at this; exact this)
              by_cases hik : i = k
              · by_cases hx0 : x = 0
                · have HOK := Lib.hid (show okRt i r k = true from okRt_yes (by rw [HX.out]; exact i0) (fun _ => by rw [HX.out]; exact hx0))
                  subst hik hx0
                  have he : ((i : Int) == (i : Int)) = true := by simp
                  clear i0
                  go_wp2_with (go_at_call 50; (with_reducible refine (HI.out _).mono ?_); rintro e w' ⟨rfl, rfl⟩)
                  go_round
                  case rel => exact ⟨i + 1, by have := HLT.out; omega, by go_num, by rw [all_range_succ, HAK.out, HOK.out]; rfl⟩
                  case measure => have := HLT.out; simp [intOf]; omega
                · have HF := Lib.hid (show ratesB rs = false from HN.out (okRow_cell hlk (by rw [← hik]; exact okRt_own (by rw [hik, HX.out]; exact hx0))))
                  subst hik
                  have he : ((i : Int) == (i : Int)) = true := by simp
                  have hxn : (x != 0) = true := by simpa using hx0
                  clear i0 hx0
                  go_wp2_with (go_at_call 50; (with_reducible refine (HI.out _).mono ?_); rintro e w' ⟨rfl, rfl⟩)
                  go_ret
                  exact ⟨ret_bool HF.out.symm, rfl⟩
              · have HOK := Lib.hid (show okRt i r k = true from okRt_yes (by rw [HX.out]; exact i0) (fun e => absurd e hik))
                have he : ((i : Int) == (k : Int)) = false := by simp; omega
                clear i0 hik
                go_wp2_with (go_at_call 50; (with_reducible refine (HI.out _).mono ?_); rintro e w' ⟨rfl, rfl⟩)
                go_round
                case rel => exact ⟨k + 1, by omega, by go_num, by rw [all_range_succ, HAK.out, HOK.out]; rfl⟩
                case measure => simp [intOf]; omega
            · have i0' : inR x 0 140 = false := by simpa using i0
              have HI := Lib.hid (show ∀ X, Calls Try.prog 50 #[.int .i64 x, .int .i64 0, .int .i64 140] X fun e w' => e = .returned (.bool false) ∧ X = w' from fun X => by have := inRange_any x 0 140 X; rw [i0'] at this; exact this)
              have HF := Lib.hid (show ratesB rs = false from HN.out (okRow_cell hlk (okRt_out (by rw [HX.out]; exact i0'))))
              clear i0 i0'
              go_wp2_with (go_at_call 50; (with_reducible refine (HI.out _).mono ?_); rintro e w' ⟨rfl, rfl⟩)
              go_ret
              exact ⟨ret_bool HF.out.symm, rfl⟩
          · have hkk : k = rs.length := by omega
            subst hkk
            have HOK := Lib.hid (show okRow rs.length i r = true by rw [okRow, HRL.out, HAK.out]; simp)
            go_wp2_with fail
            go_round
            case rel => exact ⟨i + 1, by have := HLT.out; omega, by go_num, by rw [all_range_succ, HA.out, HGD.out, HOK.out]; rfl⟩
            case measure => have := HLT.out; simp [intOf]; omega
      · have ht : ((r.length : Int) != (rs.length : Int)) = true := by simp; omega
        have HF := Lib.hid (HN.out (okRow_len h2))
        clear h2 ho
        go_wp2
        go_ret
        exact ⟨ret_bool HF.out.symm, rfl⟩
    · have hk' : i = rs.length := by omega
      subst hk'
      have HI := Lib.hid (inRange_any (rs.length : Int) 1 5)
      have HB := Lib.hid (show inR rs.length 1 5 = ratesB rs by rw [ratesB, HA.out, Bool.true_and])
      rw [HB.out] at HI
      go_wp2_with (go_at_call 50; (with_reducible refine (HI.out _).mono ?_); rintro e w' ⟨rfl, rfl⟩)
      go_ret
      exact ⟨rfl, rfl⟩

set_option maxRecDepth 100000 in
theorem specValidRates_any (A : Option Addr) (c : Nat) (rs : List (List Int)) (w : World) (hr : Grid w 0 w.heap.size A rs) (hl : rs.length ≤ 1000000000) (hs : ∀ r ∈ rs, r.length ≤ 1000000000) :
    Calls Try.prog 16 #[.slice A rs.length c] w fun e w' => e = .returned (.bool (ratesB rs)) ∧ w = w' := by
  have H := Lib.hid (validRates_low A c rs w hr hl hs)
  clear hs
  go_enter Try.func16, Try.ntmps16
  go_wp2_with (go_at_call 44; ((with_reducible refine H.out.mono ?_); rintro e w' ⟨rfl, rfl⟩))
  go_ret
  exact ⟨rfl, rfl⟩

set_option maxRecDepth 100000 in
theorem isRate_any7 (x : Int) (w : World) : Calls Try.prog 46 #[.int .i64 x] w fun e w' => e = .returned (.bool (inR x 0 140)) ∧ w = w' := by
  by_cases h : 0 ≤ x
  · by_cases h2 : x ≤ 140
    · go_enter Try.func46, Try.ntmps46
      go_wp2
      go_ret
      exact ⟨by simp [inR]; omega, rfl⟩
    · go_enter Try.func46, Try.ntmps46
      go_wp2
      go_ret
      exact ⟨by simp [inR]; omega, rfl⟩
  · go_enter Try.func46, Try.ntmps46
    go_wp2
    go_ret
    exact ⟨by simp [inR]; omega, rfl⟩

set_option maxRecDepth 100000 in
set_option maxHeartbeats 2000000 in
theorem impValidRates_any (A : Option Addr) (c : Nat) (rs : List (List Int)) (w : World) (hr : Grid w 0 w.heap.size A rs) (hs : ∀ r ∈ rs, r.length ≤ 1000000000) :
    Calls Try.prog 18 #[.slice A rs.length c] w fun e w' => e = .returned (.bool (ratesB rs)) ∧ w = w' := by
  have HS := Lib.hid hs
  clear hs
  by_cases hn1 : rs.length < 1
  · have HF := Lib.hid (rates_len (rs := rs) (by simp [inR]; omega))
    have hd : decide ((rs.length : Int) < 1) = true := decide_eq_true (by omega)
    clear hn1
    go_enter Try.func18, Try.ntmps18
    go_wp2
    go_ret
    exact ⟨ret_bool HF.out.symm, rfl⟩
  by_cases hn5 : 5 < rs.length
  · have HF := Lib.hid (rates_len (rs := rs) (by simp [inR]; omega))
    have hd : decide ((rs.length : Int) < 1) = false := decide_eq_false (by omega)
    have hd2 : decide ((5 : Int) < (rs.length : Int)) = true := decide_eq_true (by omega)
    clear hn1 hn5
    go_enter Try.func18, Try.ntmps18
    go_wp2
    go_ret
    exact ⟨ret_bool HF.out.symm, rfl⟩
  have HL := Lib.hid (show inR rs.length 1 5 = true from inR_iff.2 (by omega))
  have hd : decide ((rs.length : Int) < 1) = false := decide_eq_false (by omega)
  have hd2 : decide ((5 : Int) < (rs.length : Int)) = false := decide_eq_false (by omega)
  have hln5 : rs.length ≤ 5 := by omega
  clear hn1 hn5
  go_enter Try.func18, Try.ntmps18
  go_wp2
  go_loop [17] (fun i => ∃ k : Nat, k ≤ rs.length ∧ i = .int .i64 k ∧ (List.range k).all (fun i => okRow rs.length i (rs.getD i [])) = true) (fun i => rs.length - (intOf i).toNat)
  case atStart => exact ⟨0, by omega, rfl, by simp⟩
  case round =>
    obtain ⟨i, hi, rfl, hall⟩ := hrel
    have HA := Lib.hid hall
    clear hall hd hd2
    by_cases hlt : i < rs.length
    · obtain ⟨b, o, R, c1, rfl, hb, hcell, hc1, ho⟩ := hr.open hlt
      have HN := Lib.hid (rates_row hlt)
      have HGD := Lib.hid (getD_row hlt)
      have hsz := HS.out _ (List.getElem_mem hlt)
      obtain ⟨r, hre⟩ : ∃ r, rs[i] = r := ⟨_, rfl⟩
      rw [hre] at hcell ho hsz HN HGD
      have HLT := Lib.hid hlt
      clear hre hc1
      by_cases h2 : r.length = rs.length
      · have HRL := Lib.hid h2
        rw [h2] at hcell
        have hne : ((rs.length : Int) != (rs.length : Int)) = false := by simp
        obtain ⟨b', o', rfl, hb', hc'⟩ := ho.open (by simp; rw [HRL.out]; omega)
        have hkr : i < r.length := by rw [HRL.out]; exact hlt
        have q0 := ints_at hc' hkr
        obtain ⟨x, hx⟩ : ∃ x, r[i] = x := ⟨_, rfl⟩
        rw [hx] at q0
        have HX := Lib.hid (show r.getD i 0 = x by rw [getD_get hkr, hx])
        have HC := Lib.hid hc'
        clear hc' hx hkr h2 hsz
        by_cases hx0 : x = 0
        · subst hx0
          go_wp2_with fail
          go_loop [36] (fun v => ∃ k : Nat, k ≤ rs.length ∧ v = .int .i64 k ∧ (List.range k).all (okRt i r) = true) (fun v => rs.length - (intOf v).toNat)
          case atStart => exact ⟨0, by omega, rfl, by simp⟩
          case round =>
            obtain ⟨k, hk, rfl, hall⟩ := hrel
            have HAK := Lib.hid hall
            clear hall hne
            by_cases hlk : k < rs.length
            · have hkr : k < r.length := by rw [HRL.out]; exact hlk
              have q1 := ints_at HC.out hkr
              obtain ⟨y, hy⟩ : ∃ y, r[k] = y := ⟨_, rfl⟩
              rw [hy] at q1
              have HY := Lib.hid (show r.getD k 0 = y by rw [getD_get hkr, hy])
              clear hy hkr q0
              by_cases i0 : inR y 0 140 = true
              · have HI := Lib.hid (show ∀ X, Calls Try.prog 46 #[.int .i64 y] X fun e w' => e = .returned (.bool true) ∧ X = w' from fun X => by have := isRate_any7 y X; rw [i0] at this; exact this)
                have HOK := Lib.hid (show okRt i r k = true from okRt_yes (by rw [HY.out]; exact i0) (fun e => by rw [← e]; exact HX.out))
                clear i0
                go_wp2_with (go_at_call 46; (with_reducible refine (HI.out _).mono ?_); rintro e w' ⟨rfl, rfl⟩)
                go_round
                case rel => exact ⟨k + 1, by omega, by go_num, by rw [all_range_succ, HAK.out, HOK.out]; rfl⟩
                case measure => simp [intOf]; omega
              · have i0' : inR y 0 140 = false := by simpa using i0
                have HI := Lib.hid (show ∀ X, Calls Try.prog 46 #[.int .i64 y] X fun e w' => e = .returned (.bool false) ∧ X = w' from fun X => by have := isRate_any7 y X; rw [i0'] at this; exact this)
                have HF := Lib.hid (show ratesB rs = false from HN.out (okRow_cell hlk (okRt_out (by rw [HY.out]; exact i0'))))
                clear i0 i0'
                go_wp2_with (go_at_call 46; (with_reducible refine (HI.out _).mono ?_); rintro e w' ⟨rfl, rfl⟩)
                go_ret
                exact ⟨ret_bool HF.out.symm, rfl⟩
            · have hkk : k = rs.length := by omega
              subst hkk
              have HOK := Lib.hid (show okRow rs.length i r = true by rw [okRow, HRL.out, HAK.out]; simp)
              go_wp2_with fail
              go_round
              case rel => exact ⟨i + 1, by have := HLT.out; omega, by go_num, by rw [all_range_succ, HA.out, HGD.out, HOK.out]; rfl⟩
              case measure => have := HLT.out; simp [intOf]; omega
        · have HF := Lib.hid (show ratesB rs = false from HN.out (okRow_cell hlt (okRt_own (by rw [HX.out]; exact hx0))))
          have hxn : (x != 0) = true := by simpa using hx0
          clear hx0
          go_wp2_with fail
          go_ret
          exact ⟨ret_bool HF.out.symm, rfl⟩
      · have ht : ((r.length : Int) != (rs.length : Int)) = true := by simp; omega
        have HF := Lib.hid (HN.out (okRow_len h2))
        clear h2 ho
        go_wp2
        go_ret
        exact ⟨ret_bool HF.out.symm, rfl⟩
    · have hk' : i = rs.length := by omega
      subst hk'
      have HB := Lib.hid (show ratesB rs = true from rates_yes HL.out HA.out)
      go_wp2
      go_ret
      exact ⟨ret_bool HB.out.symm, rfl⟩
end Go.Proofs.Ytmbpcilgjolaeaa
