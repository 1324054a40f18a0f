/- FirstWaste, the other side. No condition. -/
import Derived.Test.YtookdmdlpglbcabYd
namespace Go.Proofs.Ytookdmdlpglbcab
open Go.RowKit

set_option maxRecDepth 100000 in
set_option maxHeartbeats 2000000 in
theorem specFirstWaste_any (A : Option Addr) (c : Nat) (v : List Int) (w : World) (hr : Ints w w.heap.size A v) (hl : v.length ≤ 9000000000000000000) :
    Calls Try.prog 19 #[.slice A v.length c] w fun e w' => e = .returned (.int .i64 (fwaV v)) ∧ Below w.heap.size w w' := by
  have HVA := Lib.hid (specVS_E A c v w hr hl)
  by_cases hv : stampsB v = true
  · rw [hv] at HVA
    rw [fwaV_yes hv]
    have hv12 : ∀ s ∈ v, 1 ≤ s ∧ s ≤ 12 := fun s hs => stamp_mem hv hs
    have hl4 : v.length ≤ 100 := by have := stampsB_len hv; omega
    have HV := Lib.hid hv12
    clear hv hv12
    go_enter Try.func19, Try.ntmps19
    go_wp2_with (go_at_call 39; refine HVA.out.mono ?_; rintro e w1 ⟨rfl, hb1⟩)
    have HF := Lib.hid (specFewest_any A c v 140 w1 (hr.past hb1) HV.out hl4 (by omega))
    go_wp2_with fail
    refine HF.out.mono ?_
    rintro e w2 ⟨A', c', rfl, hcp, ho, hb2⟩
    have hb12 := hb1.trans (hb2.mono hb1.size)
    obtain ⟨b, o, rfl, hbb, hc⟩ := ho.open (by rw [List.length_map, fwT_len]; omega)
    have hcells : ∀ r : Nat, r ≤ 140 → w2.cell? ⟨b, o + r, none⟩ = some (.int .i64 (fw v r)) := by
      intro r hr
      have h1 := ints_at hc (show r < (fwT v 140).length by rw [fwT_len]; omega)
      rw [h1, ← getD_get, fwT_get v 140 hr]
    have HC := Lib.hid hcells
    have hr2 := hr.past hb12
    have HB := Lib.hid hb12
    clear hcells hc ho hcp hb12 hb2 hb1 hr HVA HF
    go_wp2
    go_loopw [4] (fun i wr => ∃ k : Nat, k ≤ 141 ∧ i = .int .i64 (k : Int) ∧ (∀ r : Nat, r < k → gr v r = fw v r) ∧ ∃ n, wr = w2.drewN n) (fun i _ => 141 - (intOf i).toNat)
    case atStart => exact ⟨0, by omega, rfl, fun r hr => by omega, 0, rfl⟩
    case round =>
      obtain ⟨k, hk, rfl, hall, hdr⟩ := hrel
      have HALL := Lib.hid hall
      have HDR := Lib.hid hdr
      clear hall
      by_cases hlt : k ≤ 140
      · have hle : (k : Int) ≤ 140 := by omega
        have hcell : wr.cell? ⟨b, o + k, none⟩ = some (.int .i64 (fw v k)) := by obtain ⟨n, rfl⟩ := hdr; exact HC.out k hlt
        have HG := Lib.hid (fun n => (specGreedy_any A c v (k : Int) (wr.drewN n) (by obtain ⟨m, rfl⟩ := hdr; exact (hr2.past (drewBelow _ _)).past (drewBelow _ _)) HV.out hl4 (by omega) hle).mono fun _ _ ⟨h1, h2⟩ => (⟨h1, h2.symm⟩ : _ ∧ _))
        have hbw := fw_bd v (fun s hs => (HV.out s hs).1) k
        obtain ⟨f, hf⟩ : ∃ f, fw v k = f := ⟨_, rfl⟩
        obtain ⟨q, hq⟩ : ∃ q, gr v (k : Int) = q := ⟨_, rfl⟩
        rw [hf] at hcell
        rw [hq] at HG
        have HFQ := Lib.hid (And.intro hf hq)
        have hk141 : (k : Int) < ((140 + 1 : Nat) : Int) := by omega
        clear hf hq hdr hbw
        by_cases hqf : q = f
        · have hqq : (q != f) = false := by simp [hqf]
          have HQF := Lib.hid hqf
          clear hqf
          go_wp2
          go_quiet ((go_at_call 43; with_reducible exact Calls.quiet_of_same (HG.out _)))
          go_wp2
          go_roundw
          case rel => exact ⟨k + 1, by omega, by go_num, fun r hr => by
            rcases Nat.lt_or_ge r k with h | h
            · exact HALL.out r h
            · have : r = k := by omega
              subst this; rw [HFQ.out.1, HFQ.out.2]; exact HQF.out, drew_moreS HDR.out _⟩
          case measure => simp [intOf]; omega
        · have hqq : (q != f) = true := by simp [hqf]
          have HE := Lib.hid (show wasteV v = (k : Int) from IsWaste.unique (waste_is v) (.inr ⟨k, rfl, hlt, by rw [HFQ.out.1, HFQ.out.2]; exact hqf, HALL.out⟩))
          clear hqf
          go_wp2
          go_quiet ((go_at_call 43; with_reducible exact Calls.quiet_of_same (HG.out _)))
          go_wp2
          go_ret
          refine ⟨ret_int HE.out.symm, ?_⟩
          obtain ⟨m, rfl⟩ := HDR.out
          rw [World.drewN_drewN]
          exact HB.out.trans ((drewBelow w2 _).mono HB.out.size)
      · have hk' : k = 141 := by omega
        subst hk'
        have HE := Lib.hid (show wasteV v = -1 from IsWaste.unique (waste_is v) (.inl ⟨rfl, fun r hr => HALL.out r (by omega)⟩))
        go_wp2
        go_ret
        refine ⟨ret_int HE.out.symm, ?_⟩
        obtain ⟨m, rfl⟩ := HDR.out
        exact HB.out.trans ((drewBelow w2 _).mono HB.out.size)
  · have hv' : stampsB v = false := by simpa using hv
    rw [hv'] at HVA
    rw [fwaV_no hv']
    clear hv hv'
    go_enter Try.func19, Try.ntmps19
    go_wp2_with (go_at_call 39; refine HVA.out.mono ?_; rintro e w1 ⟨rfl, hb1⟩)
    go_ret
    exact ⟨rfl, hb1⟩
end Go.Proofs.Ytookdmdlpglbcab
