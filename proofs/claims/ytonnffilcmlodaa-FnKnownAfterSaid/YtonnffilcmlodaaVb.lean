/- Calls: ValidCalls on both sides. No condition. -/
import Derived.Test.YtonnffilcmlodaaVa
import Derived.Test.YtonnffilcmlodaaAb
import Derived.Test.YtonnffilcmlodaaN1
import Derived.Test.YtonnffilcmlodaaEx
namespace Go.Proofs.Ytonnffilcmlodaa
open Go.RowKit

theorem callB_no {n : Int} {r : List Int} (h : r.length ≠ 2) : callB n r = false := by simp [callB, h]
theorem callB_two (n p q : Int) : callB n [p, q] = ((inR p 0 (n - 1) && inR q 0 (n - 1)) && p != q) := by simp [callB]
theorem two_len {r : List Int} (h : r.length = 2) : ∃ p q, r = [p, q] := by
  match r, h with
  | [p, q], _ => exact ⟨p, q, rfl⟩
theorem row_bd2 {rs : List (List Int)} {P : List Int → Prop} (h : ∀ r ∈ rs, P r) {k : Nat} (hk : k < rs.length) : P rs[k] := h _ (List.getElem_mem hk)

theorem drewMore {w w' : World} (h : ∃ n, w' = w.drewN n) (m : Nat) : ∃ n, w'.drewN m = w.drewN n := by
  obtain ⟨n, rfl⟩ := h; exact ⟨_, World.drewN_drewN ..⟩
theorem drewsBelow {w w' : World} (h : ∃ n, w' = w.drewN n) (m : Nat) : Below w.heap.size w (w'.drewN m) := by
  obtain ⟨n, rfl⟩ := h; rw [World.drewN_drewN]; exact drewBelow _ _
theorem drewsBelow0 {w w' : World} (h : ∃ n, w' = w.drewN n) : Below w.heap.size w w' := by
  obtain ⟨n, rfl⟩ := h; exact drewBelow _ _

set_option maxRecDepth 100000 in
set_option maxHeartbeats 4000000 in
theorem validCalls_low (A : Option Addr) (c : Nat) (rs : List (List Int)) (n m : Int) (w : World) (hr : Grid w 0 w.heap.size A rs) (hl : rs.length ≤ 1000000000) (hs : ∀ r ∈ rs, r.length ≤ 1000000000) (hm : IntKind.i64.wrap (n - 1) = m) :
    Calls Try.prog 45 #[.int .i64 n, .slice A rs.length c] w fun e w' => e = .returned (.bool (rs.all (callB (m + 1)) && (inR n 1 7 && decide (rs.length ≤ 20)))) ∧ ∃ z, w' = w.drewN z := by
  have HS := Lib.hid hs
  have HIN := Lib.hid (fun (a lo hi : Int) (b : Bool) (hb : inR a lo hi = b) (X : World) => show Calls Try.prog 52 #[.int .i64 a, .int .i64 lo, .int .i64 hi] X fun e w' => e = .returned (.bool b) ∧ ∃ n, w' = X.drewN n from by have := inRange_any a lo hi X; rw [hb] at this; exact this.mono fun _ _ ⟨h1, h2⟩ => ⟨h1, 0, h2.symm⟩)
  have HNO := Lib.hid (fun (k : Nat) (hk : k < rs.length) (h : callB (m + 1) rs[k] = false) => all_no (p := callB (m + 1)) hk h)
  have HMM := Lib.hid (show ∀ p q : Int, callB (m + 1) [p, q] = ((inR p 0 m && inR q 0 m) && p != q) from fun p q => by rw [callB_two, show m + 1 - 1 = m by omega])
  clear hs
  obtain ⟨V, hV⟩ : ∃ V, (rs.all (callB (m + 1)) && (inR n 1 7 && decide (rs.length ≤ 20))) = V := ⟨_, rfl⟩
  have HV := Lib.hid hV
  rw [hV]
  clear hV
  go_enter Try.func45, Try.ntmps45
  go_wp2
  go_loopw [5] (fun i wr => ∃ k : Nat, k ≤ rs.length ∧ i = .int .i64 k ∧ Hid ((rs.take k).all (callB (m + 1)) = true) ∧ ∃ z, wr = w.drewN z) (fun i _ => rs.length - (intOf i).toNat)
  case atStart => exact ⟨0, by omega, rfl, Lib.hid (by simp), 0, rfl⟩
  case round =>
    obtain ⟨k, hk, rfl, HA, hdr⟩ := hrel
    have HDR := Lib.hid hdr
    have hrw : Grid wr 0 wr.heap.size A rs := by obtain ⟨n0, rfl⟩ := hdr; exact hr.past (drewBelow _ _)
    clear hdr
    by_cases hlt : k < rs.length
    · obtain ⟨b, o, R, c1, rfl, hb2, hcell, hc1, ho⟩ := hrw.open hlt
      have HT := Lib.hid (all_take (p := callB (m + 1)) hlt)
      have HNK := Lib.hid (HNO.out k hlt)
      have hsz := row_bd2 HS.out hlt
      obtain ⟨r, hre⟩ : ∃ r, rs[k] = r := ⟨_, rfl⟩
      rw [hre] at hcell ho hsz
      have HRE := Lib.hid hre
      have HLT := Lib.hid hlt
      clear hre hc1
      by_cases h3 : r.length = 2
      · obtain ⟨p, q, rfl⟩ := two_len h3
        clear h3 hsz
        obtain ⟨b', o', rfl, hb', hc'⟩ := ho.open (by simp)
        have q0 := ints_at hc' (show 0 < [p, q].length by simp)
        have q1 := ints_at hc' (show 1 < [p, q].length by simp)
        simp only [List.getElem_cons_zero, List.getElem_cons_succ, Nat.add_zero] at q0 q1
        have hle3 : ([p, q] : List Int).length = 2 := rfl
        rw [hle3] at hcell
        clear hc' ho hle3
        cases g0 : inR p 0 m with
        | false =>
          have HI0 := Lib.hid (HIN.out p 0 m false g0)
          have HF := Lib.hid (show V = false by rw [← HV.out, HNK.out (by rw [HRE.out, HMM.out, g0]; rfl)]; rfl)
          clear g0
          go_wp2
          go_quiet ((go_at_call 52; with_reducible exact Calls.quiet_of (HI0.out _)))
          go_wp2
          go_ret
          exact ⟨ret_bool HF.out.symm, drewMore HDR.out _⟩
        | true =>
          have HI0 := Lib.hid (HIN.out p 0 m true g0)
          have G0 := Lib.hid g0
          clear g0
          cases g1 : inR q 0 m with
          | false =>
            have HI1 := Lib.hid (HIN.out q 0 m false g1)
            have HF := Lib.hid (show V = false by rw [← HV.out, HNK.out (by rw [HRE.out, HMM.out, g1, Bool.and_false]; rfl)]; rfl)
            clear g1
            go_wp2
            go_quiet ((first | (go_at_call 52; with_reducible exact Calls.quiet_of (HI0.out _)) | (go_at_call 52; with_reducible exact Calls.quiet_of (HI1.out _))))
            go_wp2
            go_ret
            exact ⟨ret_bool HF.out.symm, drewMore HDR.out _⟩
          | true =>
            have HI1 := Lib.hid (HIN.out q 0 m true g1)
            have G1 := Lib.hid g1
            clear g1
            by_cases hpq : p = q
            · have t1 : (p == q) = true := by simp [hpq]
              have HF := Lib.hid (show V = false by rw [← HV.out, HNK.out (by rw [HRE.out, HMM.out, G0.out, G1.out, hpq]; simp)]; rfl)
              clear hpq
              go_wp2
              go_quiet ((first | (go_at_call 52; with_reducible exact Calls.quiet_of (HI0.out _)) | (go_at_call 52; with_reducible exact Calls.quiet_of (HI1.out _))))
              go_wp2
              go_ret
              exact ⟨ret_bool HF.out.symm, drewMore HDR.out _⟩
            · have t1 : (p == q) = false := by simp [hpq]
              have HOK := Lib.hid (show callB (m + 1) [p, q] = true by rw [HMM.out, G0.out, G1.out]; simp [hpq])
              clear hpq
              go_wp2
              go_quiet ((first | (go_at_call 52; with_reducible exact Calls.quiet_of (HI0.out _)) | (go_at_call 52; with_reducible exact Calls.quiet_of (HI1.out _))))
              go_wp2
              clear hm
              go_roundw
              case rel => exact ⟨k + 1, by have := HLT.out; omega, by go_num, Lib.hid (by rw [HT.out, HA.out, HRE.out, HOK.out]; rfl), drewMore HDR.out _⟩
              case measure => have := HLT.out; simp [intOf]; omega
      · have ht : ((r.length : Int) != 2) = true := by simp; omega
        have HF := Lib.hid (show V = false by rw [← HV.out, HNK.out (by rw [HRE.out]; exact callB_no h3)]; rfl)
        clear h3 ho
        go_wp2
        go_quiet (fail)
        go_wp2
        go_ret
        exact ⟨ret_bool HF.out.symm, drewMore HDR.out _⟩
    · have hk' : k = rs.length := by omega
      subst hk'
      have hall : rs.all (callB (m + 1)) = true := by have := HA.out; rwa [List.take_length] at this
      have HVV := Lib.hid (show V = (inR n 1 7 && decide (rs.length ≤ 20)) by rw [← HV.out, hall, Bool.true_and])
      clear hall hm
      cases g0 : inR n 1 7 with
      | false =>
        have HI0 := Lib.hid (HIN.out n 1 7 false g0)
        have HF := Lib.hid (show V = false by rw [HVV.out, g0]; rfl)
        clear g0
        go_wp2_with (go_at_call 52; ((with_reducible refine (HI0.out _).mono ?_); rintro e w' ⟨rfl, z, rfl⟩))
        go_ret
        exact ⟨ret_bool HF.out.symm, drewMore HDR.out _⟩
      | true =>
        have HI0 := Lib.hid (HIN.out n 1 7 true g0)
        have HF := Lib.hid (show V = decide ((rs.length : Int) ≤ 20) by rw [HVV.out, g0, Bool.true_and, decide_eq_decide]; omega)
        clear g0
        go_wp2_with (go_at_call 52; ((with_reducible refine (HI0.out _).mono ?_); rintro e w' ⟨rfl, z, rfl⟩))
        go_ret
        exact ⟨ret_bool HF.out.symm, drewMore HDR.out _⟩

theorem validCalls_any (A : Option Addr) (c : Nat) (rs : List (List Int)) (n : Int) (w : World) (hr : Grid w 0 w.heap.size A rs) (hl : rs.length ≤ 1000000000) (hs : ∀ r ∈ rs, r.length ≤ 1000000000) :
    Calls Try.prog 45 #[.int .i64 n, .slice A rs.length c] w fun e w' => e = .returned (.bool (callsB n rs)) ∧ ∃ z, w' = w.drewN z := by
  refine (validCalls_low A c rs n _ w hr hl hs rfl).mono ?_
  rintro e w' ⟨rfl, hz⟩
  refine ⟨ret_bool ?_, hz⟩
  by_cases h : inR n 1 7 = true
  · have h1 := inR_iff.1 h
    rw [show IntKind.i64.wrap (n - 1) = n - 1 from IntWalk.i64_in _ (by omega), show n - 1 + 1 = n by omega]
    unfold callsB
    rw [Bool.and_assoc]
  · have h' : inR n 1 7 = false := by simpa using h
    unfold callsB
    rw [h']; simp

set_option maxRecDepth 100000 in
theorem specValidCalls_any (A : Option Addr) (c : Nat) (rs : List (List Int)) (n : Int) (w : World) (hr : Grid w 0 w.heap.size A rs) (hl : rs.length ≤ 1000000000) (hs : ∀ r ∈ rs, r.length ≤ 1000000000) :
    Calls Try.prog 16 #[.int .i64 n, .slice A rs.length c] w fun e w' => e = .returned (.bool (callsB n rs)) ∧ Below w.heap.size w w' := by
  have H := Lib.hid (validCalls_any A c rs n w hr hl hs)
  clear hs
  go_enter Try.func16, Try.ntmps16
  go_wp2_with (go_at_call 45; ((with_reducible refine H.out.mono ?_); rintro e w' ⟨rfl, z, rfl⟩))
  go_ret
  exact ⟨rfl, drewBelow _ _⟩

set_option maxRecDepth 100000 in
theorem canCall_any (n : Int) (w : World) : Calls Try.prog 43 #[.int .i64 n] w fun e w' => e = .returned (.bool (inR n 1 7)) ∧ w = w' := by
  by_cases h : 1 ≤ n
  · by_cases h2 : n ≤ 7
    · have HF := Lib.hid (show inR n 1 7 = true from inR_iff.2 ⟨h, h2⟩)
      go_enter Try.func43, Try.ntmps43
      go_wp2
      go_ret
      exact ⟨ret_bool (by rw [HF.out]; try (first | (simp; done) | (simp; omega))), rfl⟩
    · have HF := Lib.hid (show inR n 1 7 = false by simp [inR]; omega)
      go_enter Try.func43, Try.ntmps43
      go_wp2
      go_ret
      exact ⟨ret_bool (by rw [HF.out]; try (first | (simp; done) | (simp; omega))), rfl⟩
  · have HF := Lib.hid (show inR n 1 7 = false by simp [inR]; omega)
    go_enter Try.func43, Try.ntmps43
    go_wp2
    go_ret
    exact ⟨ret_bool (by rw [HF.out]), rfl⟩

theorem callB_bel {n : Int} {r : List Int} (h2 : r.length = 2) : callB n r = (belB n r && r.getD 0 0 != r.getD 1 0) := by
  obtain ⟨p, q, rfl⟩ := two_len h2
  simp [callB, belB]
theorem callB_belno {n : Int} {r : List Int} (h : belB n r = false) : callB n r = false := by
  by_cases h2 : r.length = 2
  · rw [callB_bel h2, h]; rfl
  · exact callB_no h2

set_option maxRecDepth 100000 in
set_option maxHeartbeats 4000000 in
theorem impValidCalls_any (A : Option Addr) (c : Nat) (rs : List (List Int)) (n : Int) (w : World) (hr : Grid w 0 w.heap.size A rs) (hs : ∀ r ∈ rs, r.length ≤ 1000000000) :
    Calls Try.prog 15 #[.int .i64 n, .slice A rs.length c] w fun e w' => e = .returned (.bool (callsB n rs)) ∧ Below w.heap.size w w' := by
  have HS := Lib.hid hs
  have HR := Lib.hid hr
  have HCC := Lib.hid (fun X => canCall_any n X)
  clear hs hr
  obtain ⟨V, hV⟩ : ∃ V, callsB n rs = V := ⟨_, rfl⟩
  have HV := Lib.hid hV
  rw [hV]
  clear hV
  by_cases hn : inR n 1 7 = true
  · rw [hn] at HCC
    by_cases h20 : rs.length ≤ 20
    · have t20 : decide ((20 : Int) < (rs.length : Int)) = false := decide_eq_false (by omega)
      have HVV := Lib.hid (show V = rs.all (callB n) by rw [← HV.out]; unfold callsB; rw [hn, decide_eq_true h20, Bool.and_true, Bool.and_true])
      have HNN := Lib.hid (inR_iff.1 hn)
      clear hn
      go_enter Try.func15, Try.ntmps15
      go_wp2_with (go_at_call 43; (with_reducible refine (HCC.out _).mono ?_); rintro e w' ⟨rfl, rfl⟩)
      clear t20
      go_loopw [17] (fun i wr => ∃ k : Nat, k ≤ rs.length ∧ i = .int .i64 k ∧ Hid ((rs.take k).all (callB n) = true) ∧ ∃ z, wr = w.drewN z) (fun i _ => rs.length - (intOf i).toNat)
      case atStart => exact ⟨0, by omega, rfl, Lib.hid (by simp), 0, rfl⟩
      case round =>
        obtain ⟨i, hi, rfl, HA, z, hz⟩ := hrel
        have HZ := Lib.hid hz
        have hgr : Grid wr 0 wr.heap.size A rs := by rw [hz]; exact HR.out
        clear hz
        by_cases hlt : i < rs.length
        · obtain ⟨b, o, R, c1, rfl, hb, hcell, hc1, ho⟩ := hgr.open hlt
          have HN := Lib.hid (show callB n rs[i] = false → V = false from fun h => by rw [HVV.out]; exact all_no hlt h)
          have HT := Lib.hid (all_take (p := callB n) hlt)
          have hsz := HS.out _ (List.getElem_mem hlt)
          obtain ⟨r, hre⟩ : ∃ r, rs[i] = r := ⟨_, rfl⟩
          rw [hre] at hcell ho hsz HN HT
          have hiI : (i : Int) < rs.length := by omega
          have HLT := Lib.hid hlt
          clear hre hc1 hlt
          by_cases h2 : r.length = 2
          · obtain ⟨p, q, rfl⟩ := two_len h2
            clear h2 hsz
            obtain ⟨b', o', rfl, hb', hc'⟩ := ho.open (by simp)
            have q0 := ints_at hc' (show 0 < [p, q].length by simp)
            have q1 := ints_at hc' (show 1 < [p, q].length by simp)
            simp only [List.getElem_cons_zero, List.getElem_cons_succ, Nat.add_zero] at q0 q1
            have hle2 : ([p, q] : List Int).length = 2 := rfl
            have HC := Lib.hid (fun X (hX : ∃ n, X = wr.drewN n) => areBelow_any (some ⟨b', o', none⟩) c1 [p, q] n X (by obtain ⟨n, rfl⟩ := hX; exact ho.row) (by simp))
            rw [hle2] at hcell HC
            clear hc' ho hle2
            by_cases hbl : belB n [p, q] = true
            · rw [hbl] at HC
              have HQ := Lib.hid (fun m => (HC.out (wr.drewN m) ⟨m, rfl⟩).mono (fun _ w3 h => And.intro h.1 (show ∃ z, w3 = (wr.drewN m).drewN z from ⟨0, h.2.symm⟩)))
              by_cases hpq : p = q
              · have tq : (p == q) = true := by simp [hpq]
                have HF := Lib.hid (HN.out (by rw [callB_bel rfl, hbl]; simp [hpq]))
                clear hbl hpq
                go_wp2_with fail
                go_quiet ((go_at_call 44; exact Calls.quiet_of (HQ.out _)))
                go_wp2
                go_ret
                exact ⟨ret_bool HF.out.symm, drewsBelow ⟨z, HZ.out⟩ _⟩
              · have tq : (p == q) = false := by simp [hpq]
                have HAI := Lib.hid (show (rs.take (i + 1)).all (callB n) = true by rw [HT.out, HA.out, callB_bel rfl, hbl]; simp [hpq])
                clear hbl hpq
                go_wp2_with fail
                go_quiet ((go_at_call 44; exact Calls.quiet_of (HQ.out _)))
                go_wp2
                go_roundw
                case rel => exact ⟨i + 1, by have := HLT.out; omega, by go_num, HAI, by rw [HZ.out]; exact ⟨_, World.drewN_drewN ..⟩⟩
                case measure => have := HLT.out; simp [intOf]; omega
            · have hbl' : belB n [p, q] = false := by simpa using hbl
              rw [hbl'] at HC
              have HQ := Lib.hid (fun m => (HC.out (wr.drewN m) ⟨m, rfl⟩).mono (fun _ w3 h => And.intro h.1 (show ∃ z, w3 = (wr.drewN m).drewN z from ⟨0, h.2.symm⟩)))
              have HF := Lib.hid (HN.out (callB_belno hbl'))
              clear hbl hbl'
              go_wp2_with fail
              go_quiet ((go_at_call 44; exact Calls.quiet_of (HQ.out _)))
              go_wp2
              go_ret
              exact ⟨ret_bool HF.out.symm, drewsBelow ⟨z, HZ.out⟩ _⟩
          · have t2 : ((r.length : Int) != 2) = true := by simp; omega
            have HF := Lib.hid (HN.out (callB_no h2))
            clear h2 ho
            go_wp2_with fail
            go_quiet (fail)
            go_wp2
            go_ret
            exact ⟨ret_bool HF.out.symm, drewsBelow ⟨z, HZ.out⟩ _⟩
        · have hk' : i = rs.length := by omega
          subst hk'
          have HF := Lib.hid (show V = true by
            have h1 : rs.all (callB n) = true := by have := HA.out; rwa [List.take_length] at this
            rw [HVV.out, h1])
          clear hgr
          go_wp2
          go_ret
          exact ⟨ret_bool HF.out.symm, drewsBelow0 ⟨z, HZ.out⟩⟩
    · have HF := Lib.hid (show V = false by rw [← HV.out]; unfold callsB; rw [decide_eq_false h20, Bool.and_false])
      have t5 : decide ((20 : Int) < (rs.length : Int)) = true := decide_eq_true (by omega)
      clear h20 hn
      go_enter Try.func15, Try.ntmps15
      go_wp2_with (go_at_call 43; (with_reducible refine (HCC.out _).mono ?_); rintro e w' ⟨rfl, rfl⟩)
      go_ret
      exact ⟨ret_bool HF.out.symm, Below.refl _ _⟩
  · have hn' : inR n 1 7 = false := by simpa using hn
    rw [hn'] at HCC
    have HF := Lib.hid (show V = false by rw [← HV.out]; unfold callsB; rw [hn', Bool.and_false, Bool.false_and])
    clear hn hn'
    go_enter Try.func15, Try.ntmps15
    go_wp2_with (go_at_call 43; (with_reducible refine (HCC.out _).mono ?_); rintro e w' ⟨rfl, rfl⟩)
    go_ret
    exact ⟨ret_bool HF.out.symm, Below.refl _ _⟩
end Go.Proofs.Ytonnffilcmlodaa
