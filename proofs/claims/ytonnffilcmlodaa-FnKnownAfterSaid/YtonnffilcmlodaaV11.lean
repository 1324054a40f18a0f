/- The walk of the law FnKnownAfter. No condition. -/
import Derived.Test.YtonnffilcmlodaaV11p
import Derived.Test.YtonnffilcmlodaaV10
import Derived.Test.YtonnffilcmlodaaEq
namespace Go.Proofs.Ytonnffilcmlodaa
open Go.RowKit

set_option maxRecDepth 100000 in
set_option maxHeartbeats 8000000 in
theorem knownAfter_law (A : Option Addr) (c : Nat) (zs : List Int) (v0 : World) (hr : Own v0 0 v0.heap.size A (zs.map (Value.int .u8))) (hx : zs.length ≤ c ∧ c ≤ maxLen ∧ ∀ z ∈ zs, (Lit.int .u8 z).wf = true) :
    Calls Try.prog 4 #[.slice A zs.length c] v0 fun e w' => e = .returned (.bool true) ∧ Below v0.heap.size v0 w' := by
  have hl : zs.length ≤ 9223372036854775807 := by have := hx.1; have := hx.2.1; unfold maxLen at this; omega
  have HX := Lib.hid hx
  clear hx
  by_cases h20 : zs.length ≤ 1048576
  · go_enter Try.func4, Try.ntmps4
    go_wp2_with fail
    refine (drawKnownAfter_any _ _ _ _ hr HX.out).mono ?_
    rintro e w ⟨n, A1, c1, rs, rfl, ⟨hn0, hn8⟩, hl22, hcap, htw, hdr, hgr, hb0⟩
    have HB0 := Lib.hid hb0
    have z00 := hb0.size
    have HGR := Lib.hid hgr
    have HTW := Lib.hid (show ∀ r ∈ rs, r.length ≤ 1000000000 from fun r hr => by have := htw r hr; omega)
    have HDR := Lib.hid hdr
    obtain ⟨V, hV⟩ : ∃ V, knL n rs = V := ⟨_, rfl⟩
    have HV := Lib.hid hV
    have hVl : V.length ≤ 8 := by
      rw [← hV]; unfold knL; split
      · rw [kn_len]; omega
      · simp
    have HES := Lib.hid (eqISelf V)
    clear hV hb0 hgr htw hdr hr
    go_wp2_with fail
    refine (impKnownAfter_any _ _ rs n w HGR.out HTW.out).mono ?_
    rw [HV.out]
    rintro e w1 ⟨A2, c2, rfl, hc2, o2, hb1⟩
    have HW1 := Lib.hid hb1
    have z1 := hb1.size
    have HO2 := Lib.hid o2
    clear hb1 o2
    go_wp2_with fail
    refine (specKnownAfter_any _ _ rs n w1 ((HGR.out.below HW1.out).more z1) (by omega) HTW.out).mono ?_
    rw [HV.out]
    rintro e w2 ⟨A3, c3, rfl, hc3, o3, hb2⟩
    have HW2 := Lib.hid (HW1.out.trans (hb2.mono z1))
    have z2 := hb2.size
    have HO22 := Lib.hid ((HO2.out.row.more (Nat.le_refl _)).below hb2)
    have HO3 := Lib.hid o3
    clear hb2 o3
    go_wp2_with fail
    refine (equalInts_any _ _ _ _ V V w2 (HO22.out.more (by omega)) (HO3.out.row.more (by omega)) (by omega)).mono ?_
    rw [HES.out]
    rintro e w3 ⟨rfl, n3, hw3⟩
    have e3 : Below w2.heap.size w2 w3 := by rw [hw3]; exact drewBelow _ _
    have z3 := e3.size
    have HW3 := Lib.hid (HW2.out.trans (e3.mono (by omega)))
    have HO23 := Lib.hid ((HO22.out.more z2).below e3)
    clear e3 hw3
    by_cases hv : callsB n rs = true
    · obtain ⟨m, rfl⟩ : ∃ m : Nat, n = m := ⟨n.toNat, by omega⟩
      have hcb := callsB_of hv
      have hm1 : 1 ≤ m := by omega
      have hm7 : m ≤ 7 := by omega
      have h2 := twoC_of hv
      have hVk : V = kn m rs := by rw [← HV.out]; unfold knL; rw [if_pos hv]; rfl
      have hVm : V.length = m := by rw [hVk, kn_len]
      have HVK := Lib.hid hVk
      have HT2 := Lib.hid h2
      have HCV := Lib.hid hv
      have HEN := Lib.hid (show (∀ i, i < m → V.getD i 0 = allN m) → fewC m ≤ rs.length from fun h => enough hv HDR.out (by rw [← hVk]; exact h))
      have HFI := Lib.hid (show fewI (m : Int) = ((fewC m : Nat) : Int) by rw [fewI_yes (inR_iff.2 ⟨by omega, by omega⟩)]; rfl)
      have HPW := Lib.hid (fun X => lpower_any m X (by omega))
      obtain ⟨pw, hpw⟩ : ∃ pw, 2 ^ m = pw := ⟨_, rfl⟩
      have hpw1 : 1 ≤ pw := by rw [← hpw]; exact Nat.one_le_two_pow
      have hpw2 : pw ≤ 128 := by rw [← hpw]; exact Nat.le_trans (Nat.pow_le_pow_right (by omega) hm7) (by decide)
      have HALN := Lib.hid (show allN m = (pw : Int) - 1 by unfold allN; rw [hpw]; omega)
      rw [hpw] at HPW
      have tV0 : ((V.length : Int) == 0) = false := beq_eq_false_iff_ne.2 (by omega)
      have tm0 : ((m : Int) == 0) = false := beq_eq_false_iff_ne.2 (by omega)
      have hfw : fewC m ≤ 10 := by unfold fewC; split <;> (try split) <;> (try split) <;> omega
      clear hpw hVk h2 hcb hv hn0 hn8
      by_cases h0 : rs.length = 0
      · have t0 : ¬ ((0 : Int) < (rs.length : Int)) := by omega
        have t0d : decide (0 < rs.length) = false := decide_eq_false (by omega)
        have HBT := Lib.hid (show BitsAt m V V by rw [HVK.out]; exact bits_same hm7 HT2.out)
        obtain ⟨L, hL⟩ : ∃ L, V = L := ⟨_, rfl⟩
        have HOV := Lib.hid (HO23.out.more z3)
        have HOL := HOV
        have HBW := Lib.hid (HB0.out.trans (HW3.out.mono z00))
        have HVM := Lib.hid hVm
        clear h0 hL hVm
        go_wp2_with fail
        go_loopw [6, 8] (fun v i wr => ∃ (a : Bool) (k : Nat), k ≤ m ∧ v = .bool a ∧ i = .int .i64 k ∧ (a = true → ∀ i, i < k → V.getD i 0 = allN m) ∧ ∃ z, wr = w3.drewN z) (fun _ i _ => m - (intOf i).toNat)
        case atStart => exact ⟨true, 0, by omega, rfl, rfl, fun _ i hi => by omega, 0, rfl⟩
        case round =>
          obtain ⟨a, k, hk, rfl, rfl, hall, z, hz⟩ := hrel
          have HZ := Lib.hid hz
          have HAL := Lib.hid hall
          have hbr : Below w3.heap.size w3 wr := by rw [hz]; exact drewBelow _ _
          by_cases hlt : k < m
          · obtain ⟨b, o, rfl, hb, hc⟩ := (HOV.out.below hbr).open (by have := HVM.out; simp; omega)
            obtain ⟨x, y, hx, hy, hx8, hy8, hbit, hsub⟩ := HBT.out k hlt
            have h1 : wr.cell? ⟨b, o + k, none⟩ = some (.int .i64 x) := hc k _ (by rw [List.getElem?_map, hx]; rfl)
            have h2 : wr.cell? ⟨b, o + k, none⟩ = some (.int .i64 y) := hc k _ (by rw [List.getElem?_map, hy]; rfl)
            have hxy : x = y := by rw [h1] at h2; have := h2; simp at this; omega
            subst hxy
            clear h2
            have h1n : ∀ q, (wr.drewN q).cell? ⟨b, o + k, none⟩ = some (.int .i64 x) := fun q => h1
            have hgd : V.getD k 0 = (x : Int) := by rw [List.getD_eq_getElem?_getD, hx]; rfl
            have HGD := Lib.hid hgd
            have e3 : bits .andNot .i64 (x : Int) (x : Int) = 0 := andNot_sub x x hsub
            have HBI := Lib.hid (fun X => lbit_any x k 1 X (by omega) (by omega) (bit_one hbit))
            have hkI : (k : Int) < (m : Int) := by omega
            have hkV : (k : Int) < (V.length : Int) := by have := HVM.out; omega
            have hk0 : (0 : Int) ≤ (k : Int) := by omega
            have e1 : IntKind.i64.wrap ((pw : Int) - 1) = (pw : Int) - 1 := IntWalk.i64_in _ (by omega)
            clear hc hx hy hbit hsub hgd hall hbr hz
            go_wp2
            go_quiet ((go_at_call 21; exact Calls.quiet_of ((HBI.out _).mono fun _ _ ⟨h1, h2⟩ => ⟨h1, 0, h2.symm⟩)))
            go_wp2_with fail
            obtain ⟨wr2, hW2⟩ : ∃ X, wr.drewN nq = X := ⟨_, rfl⟩
            have HZ2 : Hid (∃ z, wr2 = w3.drewN z) := Lib.hid ⟨_, by rw [← hW2, HZ.out]; exact World.drewN_drewN ..⟩
            have h1 := h1n nq
            rw [hW2] at h1
            rw [hW2]
            clear hW2 h1n
            cases a with
            | false =>
              go_wp2_with fail
              go_quiet ((go_at_call 22; exact Calls.quiet_of ((HPW.out _).mono fun _ _ ⟨h1, h2⟩ => ⟨h1, 0, h2.symm⟩)))
              go_wp2
              go_roundw
              case rel => exact ⟨false, k + 1, by omega, rfl, by go_num, (fun h => by cases h), by obtain ⟨z2, hz2⟩ := HZ2.out; rw [hz2]; exact ⟨_, World.drewN_drewN ..⟩⟩
              case measure => simp [intOf]; omega
            | true =>
              by_cases hxe : (x : Int) = (pw : Int) - 1
              · have t1 : ((x : Int) == (pw : Int) - 1) = true := beq_iff_eq.2 hxe
                have HXE := Lib.hid hxe
                clear hxe
                go_wp2_with fail
                go_quiet ((go_at_call 22; exact Calls.quiet_of ((HPW.out _).mono fun _ _ ⟨h1, h2⟩ => ⟨h1, 0, h2.symm⟩)))
                go_wp2
                go_roundw
                case rel =>
                  refine ⟨true, k + 1, by omega, rfl, by go_num, fun _ i hi => ?_, by obtain ⟨z2, hz2⟩ := HZ2.out; rw [hz2]; exact ⟨_, World.drewN_drewN ..⟩⟩
                  by_cases hik : i < k
                  · exact HAL.out (by trivial) i hik
                  · have : i = k := by omega
                    subst this
                    rw [HGD.out, HXE.out, HALN.out]
                case measure => simp [intOf]; omega
              · have t1 : ((x : Int) == (pw : Int) - 1) = false := beq_eq_false_iff_ne.2 hxe
                clear hxe
                go_wp2_with fail
                go_quiet ((go_at_call 22; exact Calls.quiet_of ((HPW.out _).mono fun _ _ ⟨h1, h2⟩ => ⟨h1, 0, h2.symm⟩)))
                go_wp2
                go_roundw
                case rel => exact ⟨false, k + 1, by omega, rfl, by go_num, (fun h => by cases h), by obtain ⟨z2, hz2⟩ := HZ2.out; rw [hz2]; exact ⟨_, World.drewN_drewN ..⟩⟩
                case measure => simp [intOf]; omega
          · have hk' : k = m := by omega
            have HBR := Lib.hid hbr
            cases a with
            | false =>
              clear hall hbr hz
              go_wp2
              go_ret
              exact ⟨rfl, HBW.out.trans (HBR.out.mono HBW.out.size)⟩
            | true =>
              have hen := HEN.out (fun i hi => hall rfl i (by omega))
              have tge : ((fewC m : Nat) : Int) ≤ (rs.length : Int) := by omega
              have HTG := Lib.hid hen
              clear hall hbr hz hen
              go_wp2_with fail
              refine (impFewest_any _ _).mono ?_
              rw [HFI.out]
              rintro e w9 ⟨rfl, rfl⟩
              go_wp2
              go_ret
              exact ⟨rfl, HBW.out.trans (HBR.out.mono HBW.out.size)⟩

      · have t0 : (0 : Int) < (rs.length : Int) := by omega
        obtain ⟨j, hj⟩ : ∃ j, rs.length = j + 1 := ⟨rs.length - 1, by omega⟩
        have hsub : (rs.length : Int) - 1 = (j : Int) := by omega
        obtain ⟨bb, oo, rfl⟩ : ∃ b o, A1 = some ⟨b, o, none⟩ := by
          obtain ⟨hs, h1, h2⟩ := HGR.out
          obtain ⟨b, o, e, _⟩ := h1.open (by rw [h2.1]; omega)
          exact ⟨b, o, e⟩
        have hsl := fun X => slice_uptoC bb oo rs.length c1 j (by omega) X
        have hlj : (rs.take j).length = j := by rw [List.length_take]; omega
        have HTT := Lib.hid (show ∀ r ∈ rs.take j, r.length ≤ 1000000000 from fun r hr => HTW.out r (List.mem_of_mem_take hr))
        obtain ⟨L, hLe⟩ : ∃ L, kn m (rs.take j) = L := ⟨_, rfl⟩
        have HLV := Lib.hid (show knL (m : Int) (rs.take j) = L by unfold knL; rw [if_pos (callsB_take j HCV.out)]; exact hLe)
        have hLm : L.length = m := by rw [← hLe, kn_len]
        have HBT := Lib.hid (show BitsAt m V L by
          have hsp : rs = rs.take j ++ [rs[j]'(by omega)] := by rw [← List.take_succ_eq_append_getElem (by omega), ← hj, List.take_length]
          have h2 := HT2.out
          rw [hsp] at h2
          have := bits_more hm7 h2
          rw [← hsp, hLe] at this
          rw [HVK.out]; exact this)
        have HKJ := Lib.hid (fun (X : World) (hX : Grid X 0 X.heap.size (some ⟨bb, oo, none⟩) (rs.take j)) => show Calls Try.prog 18 #[.int .i64 (m : Int), .slice (some ⟨bb, oo, none⟩) j c1] X (iRes X L) by
          have h := impKnownAfter_any (some ⟨bb, oo, none⟩) c1 (rs.take j) (m : Int) X hX HTT.out
          rw [hlj, HLV.out] at h; exact h)
        clear h0 hj hLe hlj
        go_wp2_with fail
        refine (HKJ.out _ (((HGR.out.below HW3.out).more HW3.out.size).takeV j)).mono ?_
        rintro e w4 ⟨A4, c4, rfl, hc4, o4, hb4⟩
        have HOV := Lib.hid ((HO23.out.more z3).below hb4 |>.more hb4.size)
        have HOL := Lib.hid (o4.row.more (Nat.le_refl _))
        have HBW := Lib.hid (HB0.out.trans ((HW3.out.trans (hb4.mono HW3.out.size)).mono z00))
        clear o4 hb4
        go_wp2_with fail
        go_loopw [6, 8] (fun v i wr => ∃ (a : Bool) (k : Nat), k ≤ m ∧ v = .bool a ∧ i = .int .i64 k ∧ (a = true → ∀ i, i < k → V.getD i 0 = allN m) ∧ ∃ z, wr = w4.drewN z) (fun _ i _ => m - (intOf i).toNat)
        case atStart => exact ⟨true, 0, by omega, rfl, rfl, fun _ i hi => by omega, 0, rfl⟩
        case round =>
          obtain ⟨a, k, hk, rfl, rfl, hall, z, hz⟩ := hrel
          have HZ := Lib.hid hz
          have HAL := Lib.hid hall
          have hbr : Below w4.heap.size w4 wr := by rw [hz]; exact drewBelow _ _
          by_cases hlt : k < m
          · obtain ⟨b, o, rfl, hb, hc⟩ := (HOV.out.below hbr).open (by simp; omega)
            obtain ⟨b', o', rfl, hb', hc'⟩ := (HOL.out.below hbr).open (by simp; omega)
            obtain ⟨x, y, hx, hy, hx8, hy8, hbit, hsub⟩ := HBT.out k hlt
            have h1 : wr.cell? ⟨b, o + k, none⟩ = some (.int .i64 x) := hc k _ (by rw [List.getElem?_map, hx]; rfl)
            have h2 : wr.cell? ⟨b', o' + k, none⟩ = some (.int .i64 y) := hc' k _ (by rw [List.getElem?_map, hy]; rfl)
            have h1n : ∀ q, (wr.drewN q).cell? ⟨b, o + k, none⟩ = some (.int .i64 x) := fun q => h1
            have hgd : V.getD k 0 = (x : Int) := by rw [List.getD_eq_getElem?_getD, hx]; rfl
            have HGD := Lib.hid hgd
            have e3 : bits .andNot .i64 (y : Int) (x : Int) = 0 := andNot_sub y x hsub
            have HBI := Lib.hid (fun X => lbit_any x k 1 X (by omega) (by omega) (bit_one hbit))
            have hkI : (k : Int) < (m : Int) := by omega
            have hkV : (k : Int) < (V.length : Int) := by omega
            have hkL : (k : Int) < (L.length : Int) := by omega
            have hk0 : (0 : Int) ≤ (k : Int) := by omega
            have e1 : IntKind.i64.wrap ((pw : Int) - 1) = (pw : Int) - 1 := IntWalk.i64_in _ (by omega)
            clear hc hc' hx hy hbit hsub hgd hall hbr hz
            go_wp2
            go_quiet ((go_at_call 21; exact Calls.quiet_of ((HBI.out _).mono fun _ _ ⟨h1, h2⟩ => ⟨h1, 0, h2.symm⟩)))
            go_wp2_with fail
            obtain ⟨wr2, hW2⟩ : ∃ X, wr.drewN nq = X := ⟨_, rfl⟩
            have HZ2 : Hid (∃ z, wr2 = w4.drewN z) := Lib.hid ⟨_, by rw [← hW2, HZ.out]; exact World.drewN_drewN ..⟩
            have h1 := h1n nq
            rw [hW2] at h1
            rw [hW2]
            clear hW2 h1n
            cases a with
            | false =>
              go_wp2_with fail
              go_quiet ((go_at_call 22; exact Calls.quiet_of ((HPW.out _).mono fun _ _ ⟨h1, h2⟩ => ⟨h1, 0, h2.symm⟩)))
              go_wp2
              go_roundw
              case rel => exact ⟨false, k + 1, by omega, rfl, by go_num, (fun h => by cases h), by obtain ⟨z2, hz2⟩ := HZ2.out; rw [hz2]; exact ⟨_, World.drewN_drewN ..⟩⟩
              case measure => simp [intOf]; omega
            | true =>
              by_cases hxe : (x : Int) = (pw : Int) - 1
              · have t1 : ((x : Int) == (pw : Int) - 1) = true := beq_iff_eq.2 hxe
                have HXE := Lib.hid hxe
                clear hxe
                go_wp2_with fail
                go_quiet ((go_at_call 22; exact Calls.quiet_of ((HPW.out _).mono fun _ _ ⟨h1, h2⟩ => ⟨h1, 0, h2.symm⟩)))
                go_wp2
                go_roundw
                case rel =>
                  refine ⟨true, k + 1, by omega, rfl, by go_num, fun _ i hi => ?_, by obtain ⟨z2, hz2⟩ := HZ2.out; rw [hz2]; exact ⟨_, World.drewN_drewN ..⟩⟩
                  by_cases hik : i < k
                  · exact HAL.out (by trivial) i hik
                  · have : i = k := by omega
                    subst this
                    rw [HGD.out, HXE.out, HALN.out]
                case measure => simp [intOf]; omega
              · have t1 : ((x : Int) == (pw : Int) - 1) = false := beq_eq_false_iff_ne.2 hxe
                clear hxe
                go_wp2_with fail
                go_quiet ((go_at_call 22; exact Calls.quiet_of ((HPW.out _).mono fun _ _ ⟨h1, h2⟩ => ⟨h1, 0, h2.symm⟩)))
                go_wp2
                go_roundw
                case rel => exact ⟨false, k + 1, by omega, rfl, by go_num, (fun h => by cases h), by obtain ⟨z2, hz2⟩ := HZ2.out; rw [hz2]; exact ⟨_, World.drewN_drewN ..⟩⟩
                case measure => simp [intOf]; omega
          · have hk' : k = m := by omega
            have HBR := Lib.hid hbr
            cases a with
            | false =>
              clear hall hbr hz
              go_wp2
              go_ret
              exact ⟨rfl, HBW.out.trans (HBR.out.mono HBW.out.size)⟩
            | true =>
              have hen := HEN.out (fun i hi => hall rfl i (by omega))
              have tge : ((fewC m : Nat) : Int) ≤ (rs.length : Int) := by omega
              have HTG := Lib.hid hen
              clear hall hbr hz hen
              go_wp2_with fail
              refine (impFewest_any _ _).mono ?_
              rw [HFI.out]
              rintro e w9 ⟨rfl, rfl⟩
              go_wp2
              go_ret
              exact ⟨rfl, HBW.out.trans (HBR.out.mono HBW.out.size)⟩

    · have hv' : callsB n rs = false := by simpa using hv
      have hV0 : V.length = 0 := by rw [← HV.out]; unfold knL; rw [if_neg hv]; rfl
      have tV0 : ((V.length : Int) == 0) = true := by simp [hV0]
      clear hv hv' hV0
      go_wp2_with fail
      refine (specKnownAfter_any _ _ rs n w3 ((HGR.out.below HW3.out).more HW3.out.size) (by omega) HTW.out).mono ?_
      rw [HV.out]
      rintro e w4 ⟨A4, c4, rfl, hc4, o4, hb4⟩
      have HO4 := Lib.hid o4
      have HO24 := Lib.hid ((HO23.out.more z3).below hb4 |>.more hb4.size)
      have HW4 := Lib.hid (HB0.out.trans ((HW3.out.trans (hb4.mono HW3.out.size)).mono z00))
      clear o4 hb4
      go_wp2_with fail
      refine (equalInts_any _ _ _ _ V V w4 HO24.out (HO4.out.row.more (Nat.le_refl _)) (by omega)).mono ?_
      rw [HES.out]
      rintro e w5 ⟨rfl, n5, hw5⟩
      have HE := Lib.hid (show Below v0.heap.size v0 w5 by rw [hw5]; exact HW4.out.trans ((drewBelow _ _).mono HW4.out.size))
      clear hw5
      go_wp2
      go_ret
      exact ⟨rfl, HE.out⟩
  · go_enter Try.func4, Try.ntmps4
    go_wp2
    go_ret
    exact ⟨rfl, Below.refl _ _⟩
end Go.Proofs.Ytonnffilcmlodaa
