/- impl.FewestStamps. No condition. -/
import Derived.Test.YtookdmdlpglbcabY5
import Derived.Test.YtookdmdlpglbcabY6
namespace Go.Proofs.Ytookdmdlpglbcab
open Go.RowKit

set_option maxRecDepth 100000 in
theorem isRate_any (r : Int) (w : World) : Calls Try.prog 37 #[.int .i64 r] w fun e w' => e = .returned (.bool (inR r 0 140)) ∧ w = w' := by
  by_cases h : 0 ≤ r
  · by_cases h2 : r ≤ 140
    · go_enter Try.func37, Try.ntmps37
      go_wp2
      go_ret
      exact ⟨by simp [inR]; omega, rfl⟩
    · go_enter Try.func37, Try.ntmps37
      go_wp2
      go_ret
      exact ⟨by simp [inR]; omega, rfl⟩
  · go_enter Try.func37, Try.ntmps37
    go_wp2
    go_ret
    exact ⟨by simp [inR]; omega, rfl⟩
theorem isRateE (r : Int) (b : Bool) (hb : inR r 0 140 = b) (w : World) : Calls Try.prog 37 #[.int .i64 r] w fun e w' => e = .returned (.bool b) ∧ w = w' := by
  have := isRate_any r w; rw [hb] at this; exact this

theorem indexT_any (cs : Array Value) (m : Nat) (x : Int) (W : World) (hm : (m : Int) < 141) (h : cs[m]? = some (.int .i64 x)) :
    (Instr.index 42 (.agg cs) (.int .i64 (m : Int))).run Try.prog W = .ok (.int .i64 x) W := by
  have h1 : (0 : Int) ≤ (m : Int) := by omega
  have hs : (sizeOf 3).run Try.prog W = .ok 1 W := by
    obtain ⟨i0, hi0, hz0, hz1, hz2⟩ := info_parts Try.info3
    simp [sizeOf, typeInfo, hi0, hz1]
  simp [Instr.index, run_underlying Try.underlying42, asIntOf, go_sem, part, hs, h1, h]
  intro h2
  omega
set_option maxRecDepth 100000 in
set_option maxHeartbeats 1000000 in
theorem impFewestStamps_any (A : Option Addr) (c : Nat) (zs : List Int) (rate : Int) (w : World) (hr : Ints w w.heap.size A zs) :
    Calls Try.prog 12 #[.slice A zs.length c, .int .i64 rate] w fun e w' => e = .returned (.int .i64 (fewV zs rate)) ∧ Below w.heap.size w w' := by
  have HVA := Lib.hid (impVS_any A c zs w hr)
  by_cases hv : stampsB zs = true
  · rw [hv] at HVA
    have HV := Lib.hid hv
    by_cases hk : inR rate 0 140 = true
    · have hkb := inRI.1 hk
      obtain ⟨m, rfl⟩ := Int.eq_ofNat_of_zero_le hkb.1
      have HE := Lib.hid (fewV_yes hv hk)
      have HIR := Lib.hid (fun W => isRateE (m : Int) true hk W)
      clear hv hk
      go_enter Try.func12, Try.ntmps12
      have HF := Lib.hid (fewestOf_any A c zs w hr (fun s hs => stamp_mem HV.out hs) (by have := stampsB_len HV.out; omega))
      go_wp2_with (first | (go_at_call 30; refine HVA.out.mono ?_; rintro e w1 ⟨rfl, rfl⟩) | (go_at_call 37; refine (HIR.out _).mono ?_; rintro e w' ⟨rfl, rfl⟩) | (go_at_call 38; refine HF.out.mono ?_; rintro e w2 ⟨T, rfl, hT, hTf, hb2⟩))
      have hg := hTf m (by omega)
      obtain ⟨cs, hcs⟩ : ∃ cs, (T.map (Value.int .i64)).toArray = cs := ⟨_, rfl⟩
      have hcm : cs[m]? = some (.int .i64 (fw zs m)) := by
        rw [← hcs, ← hg]
        simp [List.getElem?_eq_getElem (show m < T.length by omega)]
      rw [hcs]
      have hm1 : (m : Int) < 141 := by omega
      have hidx := indexT_any cs m _ w2 hm1 hcm
      clear hcs hg hTf hT hkb hcm
      rw [hidx]
      clear hidx
      go_wp2
      go_ret
      exact ⟨ret_int HE.out.symm, hb2⟩
    · have hk' : inR rate 0 140 = false := by simpa using hk
      have HE := Lib.hid (fewV_no (v := zs) (r := rate) (.inr hk'))
      have HIR := Lib.hid (fun W => isRateE rate false hk' W)
      clear hv hk hk'
      go_enter Try.func12, Try.ntmps12
      go_wp2_with (first | (go_at_call 30; refine HVA.out.mono ?_; rintro e w1 ⟨rfl, rfl⟩) | (go_at_call 37; refine (HIR.out _).mono ?_; rintro e w' ⟨rfl, rfl⟩))
      go_ret
      exact ⟨ret_int HE.out.symm, Below.refl _ _⟩
  · have hv' : stampsB zs = false := by simpa using hv
    rw [hv'] at HVA
    have HE := Lib.hid (fewV_no (v := zs) (r := rate) (.inl hv'))
    clear hv hv'
    go_enter Try.func12, Try.ntmps12
    go_wp2_with (go_at_call 30; refine HVA.out.mono ?_; rintro e w1 ⟨rfl, rfl⟩)
    go_ret
    exact ⟨ret_int HE.out.symm, Below.refl _ _⟩
end Go.Proofs.Ytookdmdlpglbcab
