/- The walk of the law FnCallsFor. No condition. -/
import Derived.Test.YtonnffilcmlodaaV8p
namespace Go.Proofs.Ytonnffilcmlodaa
open Go.RowKit

theorem few_len {m : Nat} (h : inR (m : Int) 1 7 = true) : callsB m (cfL m) = true ∧ (cfL m).length = fewC m ∧ ∀ i, i < m → (kn m (cfL m)).getD i 0 = allN m := by
  have hb := inR_iff.1 h
  obtain ⟨h1, h2, h3⟩ := cf_all ⟨m, by omega⟩ (by show 1 ≤ m; omega)
  exact ⟨h1, h2, fun i hi => h3 ⟨i, by omega⟩ hi⟩

set_option maxRecDepth 100000 in
set_option maxHeartbeats 8000000 in
theorem callsFor_law (A : Option Addr) (c : Nat) (zs : List Int) (v0 : World) (hr : Own v0 0 v0.heap.size A (zs.map (Value.int .u8))) (hx : zs.length ≤ c ∧ c ≤ maxLen ∧ ∀ z ∈ zs, (Lit.int .u8 z).wf = true) :
    Calls Try.prog 5 #[.slice A zs.length c] v0 fun e w' => e = .returned (.bool true) ∧ Below v0.heap.size v0 w' := by
  have hl : zs.length ≤ 9223372036854775807 := by have := hx.1; have := hx.2.1; unfold maxLen at this; omega
  have HX := Lib.hid hx
  clear hx
  by_cases h20 : zs.length ≤ 1048576
  · go_enter Try.func5, Try.ntmps5
    go_wp2_with fail
    refine (drawCallsFor_any _ _ _ _ hr HX.out).mono ?_
    rintro e w ⟨n, rfl, hn0, hn8, hb0⟩
    have HB0 := Lib.hid hb0
    have z00 := hb0.size
    have hql := cfI_len n
    obtain ⟨q, hq⟩ : ∃ q, cfI n = q := ⟨_, rfl⟩
    rw [hq] at hql
    have HV := Lib.hid hq
    have HEV := Lib.hid (eqG_self q)
    have HRV := Lib.hid (show ∀ (i : Nat) (hi : i < q.length), q[i].length ≤ 1000000000 from fun i hi => by have := hql.2.2 _ (List.getElem_mem hi); omega)
    have HRM := Lib.hid (show ∀ r ∈ q, r.length ≤ 1000000000 from fun r hr => by have := hql.2.2 r hr; omega)
    obtain ⟨hql, _, _⟩ := hql
    clear hq hb0 hr
    go_wp2_with fail
    refine (impCF_g _ _).mono ?_
    rw [HV.out]
    rintro e w1 ⟨A1, c1, rfl, hc1, o1, hb1⟩
    have HW1 := Lib.hid hb1
    have z1 := hb1.size
    have HO1 := Lib.hid o1
    clear hb1 o1
    go_wp2_with fail
    refine (specCF_g _ _).mono ?_
    rw [HV.out]
    rintro e w2 ⟨A2, c2, rfl, hc2, o2, hb2⟩
    have z2 := hb2.size
    have HO12 := Lib.hid (HO1.out.keep (by omega) hb2)
    have HO2 := Lib.hid o2
    have HW2 := Lib.hid (HW1.out.trans (hb2.mono z1))
    clear hb2 o2
    go_wp2_with fail
    refine (equalRows_any _ _ _ _ _ _ _ (HO12.out.row.more (by omega)) (HO2.out.row.more (by omega)) (by omega) HRV.out).mono ?_
    rw [HEV.out]
    rintro e w3 ⟨rfl, n3, hw3⟩
    have e3 : Below w2.heap.size w2 w3 := by rw [hw3]; exact drewBelow _ _
    have z3 := e3.size
    have HO13 := Lib.hid (HO12.out.keep (by omega) e3)
    have HW3 := Lib.hid (HW2.out.trans (e3.mono (by omega)))
    clear e3 hw3
    by_cases hin : inR n 1 7 = true
    · obtain ⟨m, rfl⟩ : ∃ m : Nat, n = m := ⟨n.toNat, by omega⟩
      have hm := inR_iff.1 hin
      obtain ⟨f1, f2, f3⟩ := few_len hin
      have hqm : q = cfL m := by rw [← HV.out, cfI_yes hin]
      rw [← hqm] at f1 f2 f3
      have HFI := Lib.hid (show fewI (m : Int) = (q.length : Int) by rw [fewI_yes hin, f2]; rfl)
      have hkv : knL (m : Int) q = kn m q := by unfold knL; rw [if_pos f1]; rfl
      have hkl := kn_len m q
      obtain ⟨V, hVe⟩ : ∃ V, kn m q = V := ⟨_, rfl⟩
      rw [hVe] at hkv hkl f3
      have HKV := Lib.hid hkv
      have HF3 := Lib.hid f3
      have hm1 : 1 ≤ m := by omega
      have hm7 : m ≤ 7 := by omega
      clear hqm f1 f2 f3 hVe hkv hm hin hn0 hn8
      have hlt1 : ¬ ((m : Int) < 1) := by omega
      have hlt7 : ¬ ((7 : Int) < (m : Int)) := by omega
      go_wp2_with fail
      refine (impKnownAfter_any _ _ _ _ _ (HO13.out.row.more (by omega)) HRM.out).mono ?_
      rw [HKV.out]
      rintro e w4 ⟨A4, c4, rfl, hc4, o4, hb4⟩
      have HW4 := Lib.hid (HB0.out.trans ((HW3.out.trans (hb4.mono HW3.out.size)).mono z00))
      have HO4 := Lib.hid o4
      have HPW := Lib.hid (fun X => lpower_any m X (by omega))
      obtain ⟨pw, hpw⟩ : ∃ pw, 2 ^ m = pw := ⟨_, rfl⟩
      have hpw1 : 1 ≤ pw := by rw [← hpw]; exact Nat.one_le_two_pow
      have hpw2 : pw ≤ 128 := by rw [← hpw]; exact Nat.le_trans (Nat.pow_le_pow_right (by omega) hm7) (by decide)
      have HAL := Lib.hid (show allN m = (pw : Int) - 1 by unfold allN; rw [hpw]; omega)
      rw [hpw] at HPW
      clear hb4 o4 hpw
      go_wp2_with fail
      go_loopw [6] (fun i wr => ∃ k : Nat, k ≤ m ∧ i = .int .i64 k ∧ ∃ z, wr = w4.drewN z) (fun i _ => m - (intOf i).toNat)
      case atStart => exact ⟨0, by omega, rfl, 0, rfl⟩
      case round =>
        obtain ⟨k, hk, rfl, z, hz⟩ := hrel
        have HZ := Lib.hid hz
        have hbr : Below w4.heap.size w4 wr := by rw [hz]; exact drewBelow _ _
        by_cases hlt : k < m
        · obtain ⟨b, o, rfl, hb, hc⟩ := ((HO4.out.row.more (Nat.le_refl _)).below hbr).open (by simp; omega)
          have h1 := ints_at hc (show k < V.length by omega)
          have h3 := HF3.out k hlt
          rw [List.getD_eq_getElem?_getD, List.getElem?_eq_getElem (show k < V.length by omega), HAL.out] at h3
          have h3' : V[k]'(by omega) = (pw : Int) - 1 := h3
          rw [h3'] at h1
          have hkI : (k : Int) < (m : Int) := by omega
          have hkV : (k : Int) < (V.length : Int) := by omega
          have hk0 : (0 : Int) ≤ (k : Int) := by omega
          have e1 : (((pw : Int) - 1) != ((pw : Int) - 1)) = false := by simp
          have e2 : IntKind.i64.wrap ((pw : Int) - 1) = (pw : Int) - 1 := IntWalk.i64_in _ (by omega)
          clear hc h3 h3' hbr hz
          go_wp2
          go_quiet ((go_at_call 22; exact Calls.quiet_of ((HPW.out _).mono fun _ _ ⟨h1, h2⟩ => ⟨h1, 0, h2.symm⟩)))
          go_wp2
          go_roundw
          case rel => exact ⟨k + 1, by omega, by go_num, by rw [HZ.out]; exact ⟨_, World.drewN_drewN ..⟩⟩
          case measure => simp [intOf]; omega
        · have hk' : k = m := by omega
          have HBR := Lib.hid hbr
          clear hbr hz
          have t0 : ((q.length : Int) == (q.length : Int)) = true := by simp
          go_wp2_with fail
          refine (impFewest_any _ _).mono ?_
          rw [HFI.out]
          rintro e w5 ⟨rfl, rfl⟩
          go_wp2
          go_ret
          exact ⟨rfl, HW4.out.trans (HBR.out.mono HW4.out.size)⟩
    · have hin' : inR n 1 7 = false := by simpa using hin
      have HW33 := Lib.hid (HB0.out.trans (HW3.out.mono z00))
      have hz0 : n = 0 ∨ n = 8 := by
        by_cases h : n = 0
        · left; exact h
        · by_cases h' : n = 8
          · right; exact h'
          · exact absurd (inR_iff.2 ⟨by omega, by omega⟩) hin
      clear hin
      rcases hz0 with rfl | rfl
      all_goals
        go_wp2_with fail
        refine (specCF_g _ _).mono ?_
        rw [HV.out]
        rintro e w4 ⟨A4, c4, rfl, hc4, o4, hb4⟩
        have HO4 := Lib.hid o4
        have HO14 := Lib.hid (HO13.out.keep (by omega) hb4)
        have HW4 := Lib.hid (HW33.out.trans (hb4.mono HW33.out.size))
        have z4 := hb4.size
        clear hb4 o4
        go_wp2_with fail
        refine (equalRows_any _ _ _ _ _ _ _ (HO14.out.row.more (by omega)) (HO4.out.row.more (by omega)) (by omega) HRV.out).mono ?_
        rw [HEV.out]
        rintro e w5 ⟨rfl, n5, hw5⟩
        have HW5 := Lib.hid (show Below v0.heap.size v0 w5 by rw [hw5]; exact HW4.out.trans ((drewBelow _ _).mono HW4.out.size))
        clear hw5
        go_wp2
        go_ret
        exact ⟨rfl, HW5.out⟩
  · go_enter Try.func5, Try.ntmps5
    go_wp2
    go_ret
    exact ⟨rfl, Below.refl _ _⟩
end Go.Proofs.Ytonnffilcmlodaa
