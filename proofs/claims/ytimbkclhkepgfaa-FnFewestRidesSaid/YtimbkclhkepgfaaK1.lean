/- Valid coaches: contracts of spec. No condition. -/
import Derived.Test.YtimbkclhkepgfaaG5
import Derived.Test.YtimbkclhkepgfaaA1
import Derived.Test.YtimbkclhkepgfaaS0
import Derived.Test.YtimbkclhkepgfaaH1
import Derived.Test.YtimbkclhkepgfaaK0
import Derived.Test.YtimbkclhkepgfaaEx
import Derived.IntWalk
namespace Go.Proofs.Ytimbkclhkepgfaa
open Go.RowKit

theorem four_of {r : List Int} (h : r.length = 4) : ∃ p l q d, r = [p, l, q, d] := by
  match r, h with
  | [p, l, q, d], _ => exact ⟨p, l, q, d, rfl⟩
/-- A row is a coach. -/
def okC (r : List Int) : Bool := decide (r.length = 4) && (inR (r.getD 0 0) 0 4 && (inR (r.getD 2 0) 0 4 && (inR (r.getD 1 0) 0 60 && inR (r.getD 3 0) (r.getD 1 0 + 1) 60)))
def coachesB (rs : List (List Int)) : Bool := decide (rs.length ≤ 10) && rs.all okC
theorem okC_four (p l q d : Int) : okC [p, l, q, d] = (inR p 0 4 && (inR q 0 4 && (inR l 0 60 && inR d (l + 1) 60))) := by simp [okC]
theorem okC_no {r : List Int} (h : ¬ r.length = 4) : okC r = false := by simp [okC, h]
theorem coaches_no {rs : List (List Int)} {k : Nat} (hk : k < rs.length) (h : okC rs[k] = false) : coachesB rs = false := by simp [coachesB, all_no hk h]
theorem coaches_all {rs : List (List Int)} (h : rs.all okC = true) : coachesB rs = decide (rs.length ≤ 10) := by simp [coachesB, h]
theorem coaches_len {rs : List (List Int)} (h : coachesB rs = true) : rs.length ≤ 10 := by
  simp only [coachesB, Bool.and_eq_true, decide_eq_true_eq] at h; exact h.1
theorem coach_row {rs : List (List Int)} (h : coachesB rs = true) {k : Nat} (hk : k < rs.length) : ∃ p l q d, rs[k] = [p, l, q, d] ∧ 0 ≤ p ∧ p ≤ 4 ∧ 0 ≤ l ∧ l ≤ 60 ∧ 0 ≤ q ∧ q ≤ 4 ∧ l < d ∧ d ≤ 60 := by
  simp only [coachesB, Bool.and_eq_true, decide_eq_true_eq, List.all_eq_true] at h
  have h2 := h.2 _ (List.getElem_mem hk)
  by_cases h4 : rs[k].length = 4
  · obtain ⟨p, l, q, d, he⟩ := four_of h4
    rw [he, okC_four] at h2
    simp only [Bool.and_eq_true, inR_iff] at h2
    exact ⟨p, l, q, d, he, by omega, by omega, by omega, by omega, by omega, by omega, by omega, by omega⟩
  · rw [okC_no h4] at h2; cases h2
theorem cp_ok {rs : List (List Int)} (h : coachesB rs = true) : ∀ c ∈ rs.map cp, c.Ok := by
  intro c hc
  obtain ⟨r, hr, rfl⟩ := List.mem_map.1 hc
  obtain ⟨i, hi, rfl⟩ := List.getElem_of_mem hr
  obtain ⟨p, l, q, d, he, h1, h2, h3, h4, h5, h6, h7, h8⟩ := coach_row h hi
  rw [he]
  exact ⟨h1, h2, h5, h6, h3, h4, h7, h8⟩

theorem drew_more {w wr : World} (h : ∃ n, wr = w.drewN n) (m : Nat) : ∃ n, wr.drewN m = w.drewN n := by
  obtain ⟨n, rfl⟩ := h
  exact ⟨_, World.drewN_drewN ..⟩
set_option maxRecDepth 100000 in
set_option maxHeartbeats 1000000 in
theorem validCoaches_low (A : Option Addr) (c : Nat) (rs : List (List Int)) (w : World) (hr : Grid w 0 w.heap.size A rs) (hl : rs.length ≤ 1000000000) (hs : ∀ r ∈ rs, r.length ≤ 1000000000) :
    Calls Try.prog 29 #[.slice A rs.length c] w fun e w' => e = .returned (.bool (coachesB rs)) ∧ ∃ n, w' = w.drewN n := by
  have HS := Lib.hid hs
  clear hs
  go_enter Try.func29, Try.ntmps29
  go_wp2
  go_loopw [3] (fun i wr => ∃ k : Nat, k ≤ rs.length ∧ i = .int .i64 k ∧ (rs.take k).all okC = true ∧ ∃ n, wr = w.drewN n) (fun i _ => rs.length - (intOf i).toNat)
  case atStart => exact ⟨0, by omega, rfl, by simp, 0, rfl⟩
  case round =>
    obtain ⟨k, hk, rfl, hall, hdr⟩ := hrel
    have HDR := Lib.hid hdr
    have hrw : Grid wr 0 wr.heap.size A rs := by obtain ⟨n0, rfl⟩ := hdr; exact hr.past (drewBelow _ _)
    clear hdr
    have HA := Lib.hid hall
    clear hall
    by_cases hlt : k < rs.length
    · obtain ⟨b, o, R, c1, rfl, hb, hcell, hc1, ho⟩ := hrw.open hlt
      have HT := Lib.hid (all_take (p := okC) hlt)
      have HN := Lib.hid (coaches_no hlt)
      have hsz := HS.out _ (List.getElem_mem hlt)
      obtain ⟨r, hre⟩ : ∃ r, rs[k] = r := ⟨_, rfl⟩
      rw [hre] at hcell ho hsz
      have HRE := Lib.hid hre
      have HLT := Lib.hid hlt
      clear hre hc1
      by_cases h4 : r.length = 4
      · obtain ⟨p, l, q, d, rfl⟩ := four_of h4
        clear h4 hsz
        obtain ⟨b', o', rfl, hb', hc'⟩ := ho.open (by simp)
        have q0 := ints_at hc' (show 0 < [p, l, q, d].length by simp)
        have q1 := ints_at hc' (show 1 < [p, l, q, d].length by simp)
        have q2 := ints_at hc' (show 2 < [p, l, q, d].length by simp)
        have q3 := ints_at hc' (show 3 < [p, l, q, d].length by simp)
        simp only [List.getElem_cons_zero, List.getElem_cons_succ, Nat.add_zero] at q0 q1 q2 q3
        have hle2 : ([p, l, q, d] : List Int).length = 4 := rfl
        rw [hle2] at hcell
        clear hc' ho hle2
        have HIN := Lib.hid (fun (a lo hi : Int) (b : Bool) (hb : inR a lo hi = b) (X : World) => show Calls Try.prog 18 #[.int .i64 a, .int .i64 lo, .int .i64 hi] X fun e w' => e = .returned (.bool b) ∧ ∃ n, w' = X.drewN n from by have := inRange_any a lo hi X; rw [hb] at this; exact this.mono fun _ _ ⟨h1, h2⟩ => ⟨h1, 0, h2.symm⟩)
        by_cases i0 : inR p 0 4 = true
        · have HQ0 := Lib.hid (HIN.out p 0 4 true i0)
          by_cases i1 : inR q 0 4 = true
          · have HQ1 := Lib.hid (HIN.out q 0 4 true i1)
            by_cases i2 : inR l 0 60 = true
            · have HQ2 := Lib.hid (HIN.out l 0 60 true i2)
              have hl0 : 0 ≤ l := (inR_iff.1 i2).1
              have hl1 : l ≤ 60 := (inR_iff.1 i2).2
              have hlw : IntKind.i64.wrap (l + 1) = l + 1 := IntWalk.i64_in _ (by omega)
              by_cases i3 : inR d (l + 1) 60 = true
              · have HQ3 := Lib.hid (HIN.out d (l + 1) 60 true i3)
                have HOK := Lib.hid (show okC [p, l, q, d] = true by rw [okC_four, i0, i1, i2, i3]; rfl)
                clear i0 i1 i2 i3 HIN
                go_wp2
                go_quiet ((first | (go_at_call 18; with_reducible exact Calls.quiet_of (HQ0.out _)) | (go_at_call 18; with_reducible exact Calls.quiet_of (HQ1.out _)) | (go_at_call 18; with_reducible exact Calls.quiet_of (HQ2.out _)) | (go_at_call 18; with_reducible exact Calls.quiet_of (HQ3.out _))))
                clear hlw
                go_wp2
                go_roundw
                case rel => exact ⟨k + 1, by have := HLT.out; omega, by go_num, by rw [HT.out, HA.out, HRE.out, HOK.out]; rfl, drew_more HDR.out _⟩
                case measure => have := HLT.out; simp [intOf]; omega
              · have i3' : inR d (l + 1) 60 = false := by simpa using i3
                have HQ3 := Lib.hid (HIN.out d (l + 1) 60 false i3')
                have HF := Lib.hid (HN.out (by rw [HRE.out, okC_four, i3']; simp))
                clear i0 i1 i2 i3 i3' HIN
                go_wp2
                go_quiet ((first | (go_at_call 18; with_reducible exact Calls.quiet_of (HQ0.out _)) | (go_at_call 18; with_reducible exact Calls.quiet_of (HQ1.out _)) | (go_at_call 18; with_reducible exact Calls.quiet_of (HQ2.out _)) | (go_at_call 18; with_reducible exact Calls.quiet_of (HQ3.out _))))
                clear hlw
                go_wp2
                go_ret
                exact ⟨ret_bool HF.out.symm, drew_more HDR.out _⟩
            · have i2' : inR l 0 60 = false := by simpa using i2
              have HQ2 := Lib.hid (HIN.out l 0 60 false i2')
              have HF := Lib.hid (HN.out (by rw [HRE.out, okC_four, i2']; simp))
              clear i0 i1 i2 i2' HIN
              go_wp2
              go_quiet ((first | (go_at_call 18; with_reducible exact Calls.quiet_of (HQ0.out _)) | (go_at_call 18; with_reducible exact Calls.quiet_of (HQ1.out _)) | (go_at_call 18; with_reducible exact Calls.quiet_of (HQ2.out _))))
              go_wp2
              go_ret
              exact ⟨ret_bool HF.out.symm, drew_more HDR.out _⟩
          · have i1' : inR q 0 4 = false := by simpa using i1
            have HQ1 := Lib.hid (HIN.out q 0 4 false i1')
            have HF := Lib.hid (HN.out (by rw [HRE.out, okC_four, i1']; simp))
            clear i0 i1 i1' HIN
            go_wp2
            go_quiet ((first | (go_at_call 18; with_reducible exact Calls.quiet_of (HQ0.out _)) | (go_at_call 18; with_reducible exact Calls.quiet_of (HQ1.out _))))
            go_wp2
            go_ret
            exact ⟨ret_bool HF.out.symm, drew_more HDR.out _⟩
        · have i0' : inR p 0 4 = false := by simpa using i0
          have HQ0 := Lib.hid (HIN.out p 0 4 false i0')
          have HF := Lib.hid (HN.out (by rw [HRE.out, okC_four, i0']; simp))
          clear i0 i0' HIN
          go_wp2
          go_quiet ((first | (go_at_call 18; with_reducible exact Calls.quiet_of (HQ0.out _))))
          go_wp2
          go_ret
          exact ⟨ret_bool HF.out.symm, drew_more HDR.out _⟩
      · have ht : ((r.length : Int) != 4) = true := by simp; omega
        have HF := Lib.hid (HN.out (by rw [HRE.out]; exact okC_no h4))
        clear h4 ho
        go_wp2
        go_quiet (fail)
        go_wp2
        go_ret
        exact ⟨ret_bool HF.out.symm, drew_more HDR.out _⟩
    · have hk' : k = rs.length := by omega
      subst hk'
      have HB := Lib.hid (show coachesB rs = decide (rs.length ≤ 10) from coaches_all (by have := HA.out; rwa [List.take_length] at this))
      by_cases h6 : rs.length ≤ 10
      · go_wp2
        go_ret
        refine ⟨ret_bool ?_, HDR.out⟩
        rw [HB.out]; simp; omega
      · go_wp2
        go_ret
        refine ⟨ret_bool ?_, HDR.out⟩
        rw [HB.out]; simp; omega

/-- A trip from a stop at a time. -/
def tripB (rs : List (List Int)) (s τ : Int) : Bool := coachesB rs && (inR s 0 4 && inR τ 0 60)
set_option maxRecDepth 100000 in
theorem validTrip_any (A : Option Addr) (c : Nat) (rs : List (List Int)) (s τ : Int) (w : World) (hr : Grid w 0 w.heap.size A rs) (hl : rs.length ≤ 1000000000) (hs : ∀ r ∈ rs, r.length ≤ 1000000000) :
    Calls Try.prog 17 #[.slice A rs.length c, .int .i64 s, .int .i64 τ] w fun e w' => e = .returned (.bool (tripB rs s τ)) ∧ ∃ n, w' = w.drewN n := by
  have H := Lib.hid (validCoaches_low A c rs w hr hl hs)
  have HI1 := Lib.hid (inRange_any s 0 4)
  have HI2 := Lib.hid (inRange_any τ 0 60)
  clear hs
  obtain ⟨x, hx⟩ : ∃ x, coachesB rs = x := ⟨_, rfl⟩
  obtain ⟨y, hy⟩ : ∃ y, inR s 0 4 = y := ⟨_, rfl⟩
  obtain ⟨z, hz⟩ : ∃ z, inR τ 0 60 = z := ⟨_, rfl⟩
  have HE := Lib.hid (show tripB rs s τ = (x && (y && z)) by rw [tripB, hx, hy, hz])
  rw [hx] at H
  rw [hy] at HI1
  rw [hz] at HI2
  clear hx hy hz
  rw [HE.out]
  cases x
  · go_enter Try.func17, Try.ntmps17
    go_wp2_with (first | (go_at_call 29; ((with_reducible refine H.out.mono ?_); rintro e w' ⟨rfl, hdn⟩; have HDN := Lib.hid hdn; clear hdn)) | (go_at_call 18; first | ((with_reducible refine (HI1.out _).mono ?_); rintro e w' ⟨rfl, rfl⟩) | ((with_reducible refine (HI2.out _).mono ?_); rintro e w' ⟨rfl, rfl⟩)))
    go_ret
    exact ⟨rfl, HDN.out⟩
  cases y
  · go_enter Try.func17, Try.ntmps17
    go_wp2_with (first | (go_at_call 29; ((with_reducible refine H.out.mono ?_); rintro e w' ⟨rfl, hdn⟩; have HDN := Lib.hid hdn; clear hdn)) | (go_at_call 18; first | ((with_reducible refine (HI1.out _).mono ?_); rintro e w' ⟨rfl, rfl⟩) | ((with_reducible refine (HI2.out _).mono ?_); rintro e w' ⟨rfl, rfl⟩)))
    go_ret
    exact ⟨rfl, HDN.out⟩
  · go_enter Try.func17, Try.ntmps17
    go_wp2_with (first | (go_at_call 29; ((with_reducible refine H.out.mono ?_); rintro e w' ⟨rfl, hdn⟩; have HDN := Lib.hid hdn; clear hdn)) | (go_at_call 18; first | ((with_reducible refine (HI1.out _).mono ?_); rintro e w' ⟨rfl, rfl⟩) | ((with_reducible refine (HI2.out _).mono ?_); rintro e w' ⟨rfl, rfl⟩)))
    go_ret
    exact ⟨by simp, HDN.out⟩
end Go.Proofs.Ytimbkclhkepgfaa
