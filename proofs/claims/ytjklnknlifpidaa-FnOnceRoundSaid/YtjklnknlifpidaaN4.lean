/- Towns: spec.validTown, the other part. No condition. -/
import Derived.Test.YtjklnknlifpidaaN3
namespace Go.Proofs.Ytjklnknlifpidaa
open Go.RowKit

set_option maxRecDepth 100000 in
set_option maxHeartbeats 2000000 in
theorem validTown_good (A : Option Addr) (c : Nat) (rs : List (List Int)) (n : Nat) (w : World) (hr : Grid w 0 w.heap.size A rs) (hs : ∀ r ∈ rs, r.length ≤ 1000000000) (hn1 : 1 ≤ n) (hn5 : n ≤ 5) (hl7 : rs.length ≤ 7) :
    Calls Try.prog 29 #[.int .i64 n, .slice A rs.length c] w fun e w' => e = .returned (.bool (townB n rs)) ∧ Below w.heap.size w w' := by
  have HS := Lib.hid hs
  clear hs
  have HIN := Lib.hid (fun (x lo hi : Int) (X : World) => inRange_any x lo hi X)
  have HN := Lib.hid (fun (k : Nat) (hk : k < rs.length) (h : okS n rs[k] = false) => townB_row hk h)
  have hwn : IntKind.i64.wrap ((n : Int) - 1) = (n : Int) - 1 := IntWalk.i64_in _ (by omega)
  go_enter Try.func29, Try.ntmps29
  go_wp2
  go_loop [5] (fun i => ∃ k : Nat, k ≤ rs.length ∧ i = .int .i64 k ∧ (rs.take k).all (okS n) = true) (fun i => rs.length - (intOf i).toNat)
  case atStart => exact ⟨0, by omega, rfl, by simp⟩
  case round =>
    obtain ⟨k, hk, rfl, hall⟩ := hrel
    have HA := Lib.hid hall
    clear hall
    by_cases hlt : k < rs.length
    · obtain ⟨b, o, R, c1, rfl, hb2, hcell, hc1, ho⟩ := hr.open hlt
      have HT := Lib.hid (all_take (p := okS n) hlt)
      have HNK := Lib.hid (HN.out k hlt)
      have hsz := row_bd HS.out hlt
      obtain ⟨r, hre⟩ : ∃ r, rs[k] = r := ⟨_, rfl⟩
      rw [hre] at hcell ho hsz
      have HRE := Lib.hid hre
      have HLT := Lib.hid hlt
      clear hre hc1
      by_cases h3 : r.length = 3
      · obtain ⟨p, q, s, rfl⟩ := three_of h3
        clear h3 hsz
        obtain ⟨b', o', rfl, hb', hc'⟩ := ho.open (by simp)
        have q0 := ints_at hc' (show 0 < [p, q, s].length by simp)
        have q1 := ints_at hc' (show 1 < [p, q, s].length by simp)
        have q2 := ints_at hc' (show 2 < [p, q, s].length by simp)
        simp only [List.getElem_cons_zero, List.getElem_cons_succ, Nat.add_zero] at q0 q1 q2
        have hle3 : ([p, q, s] : List Int).length = 3 := rfl
        rw [hle3] at hcell
        clear hc' ho hle3
        cases g0 : inR p 0 ((n : Int) - 1) with
        | false =>
          have HI0 := Lib.hid (show ∀ X, Calls Try.prog 49 #[.int .i64 p, .int .i64 0, .int .i64 ((n : Int) - 1)] X fun e w' => e = .returned (.bool false) ∧ X = w' from fun X => by have := HIN.out p 0 ((n : Int) - 1) X; rw [g0] at this; exact this)
          have HF := Lib.hid (HNK.out (by rw [HRE.out, okS_three, g0]; rfl))
          clear g0
          go_wp2_with (go_at_call 49; ((with_reducible refine (HI0.out _).mono ?_); rintro e w' ⟨rfl, rfl⟩))
          go_ret
          exact ⟨ret_bool HF.out.symm, Below.refl _ _⟩
        | true =>
          have HI0 := Lib.hid (show ∀ X, Calls Try.prog 49 #[.int .i64 p, .int .i64 0, .int .i64 ((n : Int) - 1)] X fun e w' => e = .returned (.bool true) ∧ X = w' from fun X => by have := HIN.out p 0 ((n : Int) - 1) X; rw [g0] at this; exact this)
          have G0 := Lib.hid g0
          clear g0
          cases g1 : inR q 0 ((n : Int) - 1) with
          | false =>
            have HI1 := Lib.hid (show ∀ X, Calls Try.prog 49 #[.int .i64 q, .int .i64 0, .int .i64 ((n : Int) - 1)] X fun e w' => e = .returned (.bool false) ∧ X = w' from fun X => by have := HIN.out q 0 ((n : Int) - 1) X; rw [g1] at this; exact this)
            have HF := Lib.hid (HNK.out (by rw [HRE.out, okS_three, g1, Bool.false_and, Bool.and_false]))
            clear g1
            go_wp2_with (go_at_call 49; first | ((with_reducible refine (HI0.out _).mono ?_); rintro e w' ⟨rfl, rfl⟩) | ((with_reducible refine (HI1.out _).mono ?_); rintro e w' ⟨rfl, rfl⟩))
            go_ret
            exact ⟨ret_bool HF.out.symm, Below.refl _ _⟩
          | true =>
            have HI1 := Lib.hid (show ∀ X, Calls Try.prog 49 #[.int .i64 q, .int .i64 0, .int .i64 ((n : Int) - 1)] X fun e w' => e = .returned (.bool true) ∧ X = w' from fun X => by have := HIN.out q 0 ((n : Int) - 1) X; rw [g1] at this; exact this)
            have G1 := Lib.hid g1
            clear g1
            cases g2 : inR s 1 20 with
            | false =>
              have HI2 := Lib.hid (show ∀ X, Calls Try.prog 49 #[.int .i64 s, .int .i64 1, .int .i64 20] X fun e w' => e = .returned (.bool false) ∧ X = w' from fun X => by have := HIN.out s 1 20 X; rw [g2] at this; exact this)
              have HF := Lib.hid (HNK.out (by rw [HRE.out, okS_three, g2, Bool.and_false, Bool.and_false]))
              clear g2
              go_wp2_with (go_at_call 49; first | ((with_reducible refine (HI0.out _).mono ?_); rintro e w' ⟨rfl, rfl⟩) | ((with_reducible refine (HI1.out _).mono ?_); rintro e w' ⟨rfl, rfl⟩) | ((with_reducible refine (HI2.out _).mono ?_); rintro e w' ⟨rfl, rfl⟩))
              go_ret
              exact ⟨ret_bool HF.out.symm, Below.refl _ _⟩
            | true =>
              have HI2 := Lib.hid (show ∀ X, Calls Try.prog 49 #[.int .i64 s, .int .i64 1, .int .i64 20] X fun e w' => e = .returned (.bool true) ∧ X = w' from fun X => by have := HIN.out s 1 20 X; rw [g2] at this; exact this)
              have HOK := Lib.hid (show okS n [p, q, s] = true by rw [okS_three, G0.out, G1.out, g2]; rfl)
              clear g2
              go_wp2_with (go_at_call 49; first | ((with_reducible refine (HI0.out _).mono ?_); rintro e w' ⟨rfl, rfl⟩) | ((with_reducible refine (HI1.out _).mono ?_); rintro e w' ⟨rfl, rfl⟩) | ((with_reducible refine (HI2.out _).mono ?_); rintro e w' ⟨rfl, rfl⟩))
              go_round
              case rel => exact ⟨k + 1, by have := HLT.out; omega, by go_num, by rw [HT.out, HA.out, HRE.out, HOK.out]; rfl⟩
              case measure => have := HLT.out; simp [intOf]; omega
      · have ht : ((r.length : Int) != 3) = true := by simp; omega
        have HF := Lib.hid (HNK.out (by rw [HRE.out]; exact okS_no h3))
        clear h3 ho
        go_wp2
        go_ret
        exact ⟨ret_bool HF.out.symm, Below.refl _ _⟩
    · have hk' : k = rs.length := by omega
      subst hk'
      have hall : rs.all (okS n) = true := by have := HA.out; rwa [List.take_length] at this
      have hI : inR (n : Int) 1 5 = true := inR_iff.2 ⟨by omega, by omega⟩
      have HI := Lib.hid (show ∀ X, Calls Try.prog 49 #[.int .i64 n, .int .i64 1, .int .i64 5] X fun e w' => e = .returned (.bool true) ∧ X = w' from fun X => by have := HIN.out n 1 5 X; rw [hI] at this; exact this)
      have HAP := Lib.hid (apart_low A c rs n w hr hn1 hn5 hl7 hall)
      have HB := Lib.hid (show townB n rs = (List.range n).all (reach (rs.map st) 0) by rw [townB, hI, hall, decide_eq_true hl7]; simp)
      have HLTS := Lib.hid (street_lt hall)
      clear hall hI hwn
      go_wp2_with (go_at_call 49; ((with_reducible refine (HI.out _).mono ?_); rintro e w' ⟨rfl, rfl⟩))
      refine HAP.out.mono ?_
      rintro e w2 ⟨D, hD, A2, c2, rfl, hc2, hm, hb⟩
      rw [mat_len] at hc2 ⊢
      have HDD := Lib.hid hD
      have HM := Lib.hid hm
      have HBB := Lib.hid hb
      clear hD hm hb
      go_wp2
      go_loop [8] (fun i => ∃ k : Nat, k ≤ n ∧ i = .int .i64 k ∧ ∀ j, j < k → reach (rs.map st) 0 j = true) (fun i => n - (intOf i).toNat)
      case atStart => exact ⟨0, by omega, rfl, fun j h => by omega⟩
      case round =>
        obtain ⟨k, hk, rfl, hreach⟩ := hrel
        have HR := Lib.hid hreach
        clear hreach
        by_cases hlt2 : k < n
        · obtain ⟨b, o, R, c3, rfl, hb2, hcell, _, ho⟩ := HM.out.row.open (i := 0) (by rw [mat_len]; omega)
          rw [mat_get (by omega), tab_length, Nat.add_zero] at hcell
          rw [mat_get (by omega)] at ho
          obtain ⟨b', o', rfl, hb', hc'⟩ := ho.open (by simp [tab_length]; omega)
          have q0 := hc' k _ (tab_vals_get hlt2)
          have hdr := dist_reach HDD.out HLTS.out (i := k) (by omega) hlt2
          obtain ⟨d, hd⟩ : ∃ d, D 0 k = d := ⟨_, rfl⟩
          rw [hd] at q0 hdr
          have hn0 : (0 : Int) < n := by omega
          have hkI : (k : Int) < n := by omega
          clear ho hc' hd
          cases hrk : reach (rs.map st) 0 k with
          | false =>
            rw [hrk] at hdr
            have hdr2 : decide (d < 0) = true := hdr
            have hneg : d < 0 := by simpa using hdr2
            have HF := Lib.hid (show townB n rs = false by rw [HB.out]; exact all_range_no hlt2 hrk)
            clear hrk hdr hdr2
            go_wp2
            go_ret
            exact ⟨ret_bool HF.out.symm, HBB.out⟩
          | true =>
            rw [hrk] at hdr
            have hdr2 : decide (d < 0) = false := hdr
            have hneg : ¬ d < 0 := by simpa using hdr2
            have HF := Lib.hid hrk
            clear hrk hdr hdr2
            go_wp2
            go_round
            case rel => exact ⟨k + 1, by omega, by go_num, fun j hj => by
              by_cases e : j = k
              · rw [e]; exact HF.out
              · exact HR.out j (by omega)⟩
            case measure => simp [intOf]; omega
        · have hkn : k = n := by omega
          subst hkn
          have HF := Lib.hid (show townB k rs = true by rw [HB.out, List.all_eq_true]; exact fun i hi => HR.out i (List.mem_range.1 hi))
          go_wp2
          go_ret
          exact ⟨ret_bool HF.out.symm, HBB.out⟩

theorem validTown_any (A : Option Addr) (c : Nat) (rs : List (List Int)) (n : Int) (w : World) (hr : Grid w 0 w.heap.size A rs) (hl : rs.length ≤ 1000000000) (hs : ∀ r ∈ rs, r.length ≤ 1000000000) :
    Calls Try.prog 29 #[.int .i64 n, .slice A rs.length c] w fun e w' => e = .returned (.bool (townB n rs)) ∧ Below w.heap.size w w' := by
  cases h : (inR n 1 5 && decide (rs.length ≤ 7)) with
  | false =>
    rw [townB_bad h]
    exact (validTown_bad A c rs n w hr hl hs h).mono fun _ _ ⟨h1, h2⟩ => ⟨h1, by rw [h2]; exact Below.refl _ _⟩
  | true =>
    simp only [Bool.and_eq_true, decide_eq_true_eq, inR_iff] at h
    obtain ⟨m, rfl⟩ := Int.eq_ofNat_of_zero_le (show 0 ≤ n by omega)
    exact validTown_good A c rs m w hr hs (by omega) (by omega) h.2
end Go.Proofs.Ytjklnknlifpidaa
