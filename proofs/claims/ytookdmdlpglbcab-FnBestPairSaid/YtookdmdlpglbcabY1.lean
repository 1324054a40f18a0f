/- Valid stamps, both sides. No condition. -/
import Derived.Test.YtookdmdlpglbcabY0
import Derived.Test.YtookdmdlpglbcabEx
import Derived.IntWalk
namespace Go.Proofs.Ytookdmdlpglbcab
open Go.RowKit

theorem drew_moreS {w wr : World} (h : ∃ n, wr = w.drewN n) (m : Nat) : ∃ n, wr.drewN m = w.drewN n := by
  obtain ⟨n, rfl⟩ := h
  exact ⟨_, World.drewN_drewN ..⟩

theorem inRangeQ (a lo hi : Int) (b : Bool) (hb : inR a lo hi = b) (X : World) : Calls Try.prog 40 #[.int .i64 a, .int .i64 lo, .int .i64 hi] X fun e w' => e = .returned (.bool b) ∧ ∃ n, w' = X.drewN n := by
  have := inRange_any a lo hi X
  rw [hb] at this
  exact this.mono fun _ _ ⟨h1, h2⟩ => ⟨h1, 0, h2.symm⟩
theorem inRangeE (a lo hi : Int) (b : Bool) (hb : inR a lo hi = b) (X : World) : Calls Try.prog 40 #[.int .i64 a, .int .i64 lo, .int .i64 hi] X fun e w' => e = .returned (.bool b) ∧ X = w' := by
  have := inRange_any a lo hi X
  rw [hb] at this
  exact this
theorem okS_out {zs : List Int} {k : Nat} (hk : k < zs.length) (h : inR zs[k] 1 12 = false) : okS zs k = false := by rw [okS_get hk, h]; rfl
theorem okS_zero {zs : List Int} (hk : 0 < zs.length) (h : inR zs[0] 1 12 = true) : okS zs 0 = true := by rw [okS_get hk, h]; rfl
theorem okS_next {zs : List Int} {k : Nat} (hk : k + 1 < zs.length) (h : inR zs[k + 1] 1 12 = true) : okS zs (k + 1) = decide (zs[k] < zs[k + 1]) := by
  rw [okS_get hk, h]
  simp [List.getElem?_eq_getElem (show k < zs.length by omega)]

set_option maxRecDepth 100000 in
set_option maxHeartbeats 1000000 in
theorem specVS_low (A : Option Addr) (c : Nat) (zs : List Int) (w : World) (hr : Ints w w.heap.size A zs) (hl : zs.length ≤ 9000000000000000000) :
    Calls Try.prog 39 #[.slice A zs.length c] w fun e w' => e = .returned (.bool (stampsB zs)) ∧ ∃ n, w' = w.drewN n := by
  go_enter Try.func39, Try.ntmps39
  go_wp2
  go_loopw [3] (fun i wr => ∃ k : Nat, k ≤ zs.length ∧ i = .int .i64 k ∧ (List.range k).all (okS zs) = true ∧ ∃ n, wr = w.drewN n) (fun i _ => zs.length - (intOf i).toNat)
  case atStart => exact ⟨0, by omega, rfl, by simp, 0, rfl⟩
  case round =>
    obtain ⟨k, hk, rfl, hall, hdr⟩ := hrel
    have HDR := Lib.hid hdr
    have hrw : Ints wr wr.heap.size A zs := by obtain ⟨n0, rfl⟩ := hdr; exact hr.past (drewBelow _ _)
    clear hdr
    have HA := Lib.hid hall
    clear hall
    by_cases hlt : k < zs.length
    · obtain ⟨b, o, rfl, hb, hc⟩ := hrw.open (by simp; omega)
      have hcell := ints_at hc hlt
      have HNO := Lib.hid (stampsB_no hlt)
      cases hin : inR zs[k] 1 12 with
      | false =>
        have HI := Lib.hid (fun X => inRangeQ zs[k] 1 12 false hin X)
        have HF := Lib.hid (HNO.out (okS_out hlt hin))
        clear hin hc
        go_wp2
        go_quiet ((go_at_call 40; with_reducible exact Calls.quiet_of (HI.out _)))
        go_wp2
        go_ret
        exact ⟨ret_bool HF.out.symm, drew_moreS HDR.out _⟩
      | true =>
        have HI := Lib.hid (fun X => inRangeQ zs[k] 1 12 true hin X)
        have HIN := Lib.hid hin
        clear hin
        by_cases h0 : k = 0
        · subst h0
          have HOK := Lib.hid (okS_zero hlt HIN.out)
          have hcell0 := hcell
          rw [Nat.add_zero] at hcell0
          clear hc
          go_wp2
          go_quiet ((go_at_call 40; with_reducible exact Calls.quiet_of (HI.out _)))
          go_wp2
          go_roundw
          case rel => exact ⟨1, by omega, by go_num, by rw [all_range_succ, HA.out, HOK.out]; rfl, drew_moreS HDR.out _⟩
          case measure => simp [intOf]; omega
        · obtain ⟨j, rfl⟩ : ∃ j, k = j + 1 := ⟨k - 1, by omega⟩
          have hcp := ints_at hc (show j < zs.length by omega)
          have hokn := okS_next hlt HIN.out
          have hpos : decide ((0 : Int) < ((j + 1 : Nat) : Int)) = true := decide_eq_true (by omega)
          have hwr : IntKind.i64.wrap (((j + 1 : Nat) : Int) - 1) = (j : Int) := by
            have : ((j + 1 : Nat) : Int) - 1 = (j : Int) := by omega
            rw [this]; exact IntWalk.i64_in _ (by omega)
          clear hc h0
          obtain ⟨x, hx⟩ : ∃ x, zs[j + 1] = x := ⟨_, rfl⟩
          obtain ⟨y, hy⟩ : ∃ y, zs[j] = y := ⟨_, rfl⟩
          rw [hx] at hcell hokn HI
          rw [hy] at hcp hokn
          have HXY := Lib.hid (And.intro hx hy)
          clear hx hy
          by_cases hxy : y < x
          · rw [decide_eq_true hxy] at hokn
            have HOK := Lib.hid hokn
            clear hokn
            have hd : decide (x ≤ y) = false := decide_eq_false (by omega)
            go_wp2
            go_quiet ((go_at_call 40; with_reducible exact Calls.quiet_of (HI.out _)))
            go_wp2
            go_roundw
            case rel => exact ⟨j + 1 + 1, by omega, by go_num, by rw [all_range_succ, HA.out, HOK.out]; rfl, drew_moreS HDR.out _⟩
            case measure => simp [intOf]; omega
          · rw [decide_eq_false hxy] at hokn
            have HF := Lib.hid (HNO.out hokn)
            clear hokn
            have hd : decide (x ≤ y) = true := decide_eq_true (by omega)
            go_wp2
            go_quiet ((go_at_call 40; with_reducible exact Calls.quiet_of (HI.out _)))
            go_wp2
            go_ret
            exact ⟨ret_bool HF.out.symm, drew_moreS HDR.out _⟩
    · have hk' : k = zs.length := by omega
      subst hk'
      have HI := Lib.hid (fun X => inRangeE zs.length 1 4 _ (stampsB_all HA.out).symm X)
      go_wp2_with (go_at_call 40; refine (HI.out _).mono ?_; rintro e w' ⟨rfl, rfl⟩)
      go_ret
      exact ⟨rfl, HDR.out⟩

def leastAt (zs : List Int) (k : Nat) : Int := if k = 0 then 1 else zs.getD (k - 1) 0 + 1
theorem leastAt_succ {zs : List Int} {k : Nat} (hk : k < zs.length) : leastAt zs (k + 1) = zs[k] + 1 := by
  simp [leastAt, List.getElem?_eq_getElem hk]
theorem leastAt_ok {zs : List Int} {k : Nat} (hk : k < zs.length) (hp : (List.range k).all (okS zs) = true) : (1 ≤ leastAt zs k ∧ leastAt zs k ≤ 13) ∧ (okS zs k = true ↔ leastAt zs k ≤ zs[k] ∧ zs[k] ≤ 12) := by
  by_cases h0 : k = 0
  · subst h0
    refine ⟨by simp [leastAt], ?_⟩
    rw [okS_get hk]
    simp [inR, leastAt]
  · obtain ⟨j, rfl⟩ : ∃ j, k = j + 1 := ⟨k - 1, by omega⟩
    have h1 := all_range hp (k := j) (by omega)
    rw [okS_get (by omega), Bool.and_eq_true, inRI] at h1
    rw [leastAt_succ (by omega)]
    refine ⟨by omega, ?_⟩
    rw [okS_get hk]
    simp [inR, List.getElem?_eq_getElem (show j < zs.length by omega)]
    omega

set_option maxRecDepth 100000 in
set_option maxHeartbeats 1000000 in
theorem impVS_any (A : Option Addr) (c : Nat) (zs : List Int) (w : World) (hr : Ints w w.heap.size A zs) :
    Calls Try.prog 30 #[.slice A zs.length c] w fun e w' => e = .returned (.bool (stampsB zs)) ∧ w = w' := by
  by_cases h1 : zs.length < 1
  · have HF := Lib.hid (stampsB_out (zs := zs) (by omega))
    have h1' : (zs.length : Int) < 1 := by omega
    clear h1
    go_enter Try.func30, Try.ntmps30
    go_wp2
    go_ret
    exact ⟨ret_bool HF.out.symm, rfl⟩
  · by_cases h4 : 4 < zs.length
    · have HF := Lib.hid (stampsB_out (zs := zs) (by omega))
      have h1' : ¬ (zs.length : Int) < 1 := by omega
      have h4' : (4 : Int) < zs.length := by omega
      clear h1 h4
      go_enter Try.func30, Try.ntmps30
      go_wp2
      go_ret
      exact ⟨ret_bool HF.out.symm, rfl⟩
    · have h1' : ¬ (zs.length : Int) < 1 := by omega
      have h4' : ¬ (4 : Int) < zs.length := by omega
      go_enter Try.func30, Try.ntmps30
      go_wp2
      clear h1' h4'
      go_loop [16, 3] (fun i m => ∃ k : Nat, k ≤ zs.length ∧ i = .int .i64 k ∧ m = .int .i64 (leastAt zs k) ∧ (List.range k).all (okS zs) = true) (fun i _ => zs.length - (intOf i).toNat)
      case atStart => exact ⟨0, by omega, rfl, rfl, by simp⟩
      case round =>
        obtain ⟨k, hk, rfl, rfl, hall⟩ := hrel
        have HA := Lib.hid hall
        clear hall
        by_cases hlt : k < zs.length
        · obtain ⟨b, o, rfl, hb, hc⟩ := hr.open (by simp; omega)
          have hcell := ints_at hc hlt
          obtain ⟨hlb, hok⟩ := leastAt_ok hlt HA.out
          obtain ⟨hl1, hl13⟩ := hlb
          have HNO := Lib.hid (stampsB_no hlt)
          have HS := Lib.hid (leastAt_succ hlt)
          obtain ⟨l, hle⟩ : ∃ l, leastAt zs k = l := ⟨_, rfl⟩
          obtain ⟨x, hx⟩ : ∃ x, zs[k] = x := ⟨_, rfl⟩
          rw [hle] at hok hl1 hl13 ⊢
          rw [hx] at hcell hok HS
          have HK := Lib.hid (And.intro hle (And.intro hx hok))
          clear hc hr hle hx hok
          by_cases hxl : x < l
          · have HF := Lib.hid (HNO.out (by rw [← Bool.not_eq_true, HK.out.2.2]; omega))
            go_wp2
            go_ret
            exact ⟨ret_bool HF.out.symm, rfl⟩
          · by_cases hx12 : 12 < x
            · have HF := Lib.hid (HNO.out (by rw [← Bool.not_eq_true, HK.out.2.2]; omega))
              go_wp2
              go_ret
              exact ⟨ret_bool HF.out.symm, rfl⟩
            · have HOK := Lib.hid (HK.out.2.2.2 ⟨by omega, by omega⟩)
              have hwx : IntKind.i64.wrap (x + 1) = x + 1 := IntWalk.i64_in _ (by omega)
              go_wp2
              go_round
              case rel => exact ⟨k + 1, by omega, by go_num, by rw [HS.out], by rw [all_range_succ, HA.out, HOK.out]; rfl⟩
              case measure => simp [intOf]; omega
        · have hk' : k = zs.length := by omega
          subst hk'
          have HT := Lib.hid (show stampsB zs = true by rw [stampsB_all HA.out, inRI]; omega)
          go_wp2
          go_ret
          exact ⟨ret_bool HT.out.symm, rfl⟩
  
theorem impVSb_any (A : Option Addr) (c : Nat) (zs : List Int) (w : World) (hr : Ints w w.heap.size A zs) :
    Calls Try.prog 30 #[.slice A zs.length c] w fun e w' => e = .returned (.bool (stampsB zs)) ∧ Below w.heap.size w w' :=
  (impVS_any A c zs w hr).mono fun _ _ ⟨he, hw⟩ => ⟨he, by rw [← hw]; exact Below.refl _ _⟩
end Go.Proofs.Ytookdmdlpglbcab
