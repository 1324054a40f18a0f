/- impl.ReachOf. No condition. -/
import Derived.Test.YtookdmdlpglbcabYx
namespace Go.Proofs.Ytookdmdlpglbcab
open Go.RowKit

theorem reachOf_any (A : Option Addr) (c : Nat) (v : List Int) (most : Nat) (w : World) (hr : Ints w w.heap.size A v) (hp : ∀ s ∈ v, 1 ≤ s ∧ s ≤ 12) (hl : v.length ≤ 100) (h6 : most ≤ 6) :
    Calls Try.prog 46 #[.slice A v.length c, .int .i64 (most : Int)] w fun e W' => e = .returned (.int .i64 (reachV v most : Int)) ∧ Below w.heap.size w W' :=
  callsIn_wide.1 (reachOf_in A c v most w hr hp hl h6)

set_option maxRecDepth 100000 in
theorem fits_any (r : Int) (w : World) : Calls Try.prog 45 #[.int .i64 r] w fun e w' => e = .returned (.bool (inR r 1 6)) ∧ w = w' := by
  by_cases h : 1 ≤ r
  · by_cases h2 : r ≤ 6
    · go_enter Try.func45, Try.ntmps45
      go_wp2
      go_ret
      exact ⟨by simp [inR]; omega, rfl⟩
    · go_enter Try.func45, Try.ntmps45
      go_wp2
      go_ret
      exact ⟨by simp [inR]; omega, rfl⟩
  · go_enter Try.func45, Try.ntmps45
    go_wp2
    go_ret
    exact ⟨by simp [inR]; omega, rfl⟩
theorem fitsE (r : Int) (b : Bool) (hb : inR r 1 6 = b) (w : World) : Calls Try.prog 45 #[.int .i64 r] w fun e w' => e = .returned (.bool b) ∧ w = w' := by
  have := fits_any r w; rw [hb] at this; exact this

set_option maxRecDepth 100000 in
set_option maxHeartbeats 1000000 in
theorem impReachOf_any (A : Option Addr) (c : Nat) (zs : List Int) (most : Int) (w : World) (hr : Ints w w.heap.size A zs) :
    Calls Try.prog 21 #[.slice A zs.length c, .int .i64 most] w fun e w' => e = .returned (.int .i64 (reaV zs most)) ∧ Below w.heap.size w w' := by
  have HVA := Lib.hid (impVS_any A c zs w hr)
  by_cases hv : stampsB zs = true
  · rw [hv] at HVA
    have HV := Lib.hid hv
    by_cases hk : inR most 1 6 = true
    · have hkb := inRI.1 hk
      obtain ⟨m, rfl⟩ := Int.eq_ofNat_of_zero_le (show 0 ≤ most by omega)
      have HE := Lib.hid (reaV_yes hv hk)
      have HIR := Lib.hid (fun W => fitsE (m : Int) true hk W)
      have HF := Lib.hid (reachOf_any A c zs m w hr (fun s hs => stamp_mem HV.out hs) (by have := stampsB_len HV.out; omega) (by omega))
      clear hv hk
      go_enter Try.func21, Try.ntmps21
      go_wp2_with (first | (go_at_call 30; refine HVA.out.mono ?_; rintro e w1 ⟨rfl, rfl⟩) | (go_at_call 45; refine (HIR.out _).mono ?_; rintro e w' ⟨rfl, rfl⟩) | (go_at_call 46; refine HF.out.mono ?_; rintro e w2 ⟨rfl, hb2⟩))
      go_ret
      exact ⟨ret_int HE.out.symm, hb2⟩
    · have hk' : inR most 1 6 = false := by simpa using hk
      have HE := Lib.hid (reaV_no (v := zs) (r := most) (.inr hk'))
      have HIR := Lib.hid (fun W => fitsE most false hk' W)
      clear hv hk hk'
      go_enter Try.func21, Try.ntmps21
      go_wp2_with (first | (go_at_call 30; refine HVA.out.mono ?_; rintro e w1 ⟨rfl, rfl⟩) | (go_at_call 45; refine (HIR.out _).mono ?_; rintro e w' ⟨rfl, rfl⟩))
      go_ret
      exact ⟨ret_int HE.out.symm, Below.refl _ _⟩
  · have hv' : stampsB zs = false := by simpa using hv
    rw [hv'] at HVA
    have HE := Lib.hid (reaV_no (v := zs) (r := most) (.inl hv'))
    clear hv hv'
    go_enter Try.func21, Try.ntmps21
    go_wp2_with (go_at_call 30; refine HVA.out.mono ?_; rintro e w1 ⟨rfl, rfl⟩)
    go_ret
    exact ⟨ret_int HE.out.symm, Below.refl _ _⟩
end Go.Proofs.Ytookdmdlpglbcab
