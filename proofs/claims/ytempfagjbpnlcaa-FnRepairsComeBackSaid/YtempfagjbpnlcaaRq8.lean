/- The walk of FnRepairsComeBack. No condition. -/
import Derived.Test.YtempfagjbpnlcaaRq7
namespace Go.Proofs.Ytempfagjbpnlcaa
open Go.RowKit

set_option maxRecDepth 100000 in
set_option maxHeartbeats 8000000 in
theorem repairsComeBack_law (A : Option Addr) (c : Nat) (zs : List Int) (w : World) (hr : Own w 0 w.heap.size A (zs.map (Value.int .u8))) (hx : zs.length ≤ c ∧ c ≤ maxLen ∧ ∀ z ∈ zs, (Lit.int .u8 z).wf = true) :
    Calls Try.prog 6 #[.slice A zs.length c] w fun e w' => e = .returned (.bool true) ∧ Below w.heap.size w w' := by
  have hl : zs.length ≤ 9223372036854775807 := by have := hx.1; have := hx.2.1; unfold maxLen at this; omega
  have HX := Lib.hid hx
  clear hx
  by_cases h20 : zs.length ≤ 1048576
  · go_enter Try.func6, Try.ntmps6
    go_wp2_with fail
    refine (drawCodeText_any _ _ _ _ hr HX.out).mono ?_
    rintro e w1 ⟨B, d, ds, rfl, h4, hds, ho, hb1⟩
    clear hds hl HX hr h20
    by_cases hv : validD ds = true
    · obtain ⟨e0, e1, e2, e3, rfl, k0, k1, k2, k3⟩ := validD_parts hv
      have hcv := codeV_yes hv
      obtain ⟨T, hT⟩ : ∃ T : ByteArray, T = ⟨(codeL [e0, e1, e2, e3] (checkF [e0, e1, e2, e3])).toArray⟩ := ⟨_, rfl⟩
      have hTl : T.data.toList = codeL [e0, e1, e2, e3] (checkF [e0, e1, e2, e3]) := by rw [hT]
      have hT6 : T.data.toList.length = 6 := by rw [hTl]; rfl
      have hTs : T.size = 6 := by rw [Array.length_toList] at hT6; exact hT6
      have hTe : T.toList.isEmpty = false := by rw [ByteArray.toList_eq, hTl]; rfl
      have HB := Lib.hid (show codeV [e0, e1, e2, e3] = .string T by rw [hcv, hT]; rfl)
      have hbb : (T.toList != T.toList) = false := by simp
      have hlow : T.size ≤ 6 := by omega
      have HDM := Lib.hid (fun k (hk : k < 4) => damage k0 k1 k2 k3 hk)
      have HSW := Lib.hid (fun hne => swapped k0 k1 k2 k3 hne)
      have HTS := Lib.hid (And.intro hTs hTl)
      clear hcv hT hTl hT6 hTs hv
      go_wp2_with fail
      refine (impCodeText_any _ _ _ _ ho).mono ?_
      rintro e w2 ⟨rfl, hb2⟩
      rw [HB.out]
      have ho2 := ho.past hb2
      have hb12 := hb1.trans (hb2.mono hb1.size)
      clear ho hb1 hb2
      go_wp2_with fail
      refine (specCodeText_any _ _ _ _ ho2 (by simp)).mono ?_
      rintro e w3 ⟨rfl, n3, rfl⟩
      rw [HB.out]
      have ho3 := ho2.below (below_drewN (Below.refl _ _) n3)
      have hb13 := below_drewN hb12 n3
      obtain ⟨w3, hw3⟩ : ∃ w3, w2.drewN n3 = w3 := ⟨_, rfl⟩
      have hz3 : w3.heap.size = w2.heap.size := by rw [← hw3]; rfl
      rw [hw3] at ho3 hb13 ⊢
      rw [← hz3] at ho3
      clear ho2 hb12 hw3 hz3
      go_wp2_with fail
      refine (impCodeText_any _ _ _ _ ho3).mono ?_
      rintro e w4 ⟨rfl, hb4⟩
      rw [HB.out]
      have ho4 := ho3.past hb4
      have HB14 := Lib.hid (hb13.trans (hb4.mono hb13.size))
      clear ho3 hb13 hb4 hbb
      obtain ⟨b, o, rfl, hb, hc0⟩ := ho4.open (by simp)
      have HO4 := Lib.hid ho4
      clear ho4 hc0
      go_wp2
      go_loopw [5] (fun i wr => ∃ k : Nat, k ≤ 4 ∧ i = .int .i64 k ∧ Below w4.heap.size w4 wr) (fun i _ => 4 - (intOf i).toNat)
      case atStart => exact ⟨0, by omega, rfl, Below.refl _ _⟩
      case round =>
        obtain ⟨k, hk, rfl, hbr⟩ := hrel
        obtain ⟨b', o', e, _, hcc⟩ := (HO4.out.below hbr).open (by simp)
        simp only [Option.some.injEq, Addr.mk.injEq, and_true] at e
        obtain ⟨rfl, rfl⟩ := e
        by_cases hlt : k < 4
        · have hcell := ints_at hcc (show k < [e0, e1, e2, e3].length from hlt)
          obtain ⟨u, hu⟩ : ∃ u, [e0, e1, e2, e3][k]'hlt = u := ⟨_, rfl⟩
          have hug : [e0, e1, e2, e3].getD k 0 = u := by rw [← hu]; simp [List.getD_eq_getElem?_getD, hlt]
          have hub : 0 ≤ u ∧ u ≤ 9 := by
            rw [← hu]
            obtain rfl | rfl | rfl | rfl : k = 0 ∨ k = 1 ∨ k = 2 ∨ k = 3 := by omega
            · exact k0
            · exact k1
            · exact k2
            · exact k3
          rw [hu] at hcell
          have hdm := HDM.out k hlt
          rw [hug] at hdm
          obtain ⟨q, hq⟩ : ∃ q : Nat, (u + 1 + (k : Int)) % 10 = (q : Int) := ⟨((u + 1 + (k : Int)) % 10).toNat, by omega⟩
          have hq9 : q < 10 := by omega
          rw [hq] at hdm
          have hq2 : (u + 1 + (k : Int)).tmod 10 = (q : Int) := by rw [Int.tmod_eq_emod_of_nonneg (by omega)]; exact hq
          have hA := cutLowR T k (by have := HTS.out.1; omega)
          have hB := fun W => cutMidR ⟨#[48, 49, 50, 51, 52, 53, 54, 55, 56, 57]⟩ q (q + 1) (by omega) (by show q + 1 ≤ 10; omega) W
          have hC := fun W => cutHighR T (k + 1) (by have := HTS.out.1; omega) W
          have hP : (T.extract 0 k).data.toList ++ ((⟨#[48, 49, 50, 51, 52, 53, 54, 55, 56, 57]⟩ : ByteArray).extract q (q + 1)).data.toList ++ (T.extract (k + 1) T.size).data.toList = T.data.toList.take k ++ [sg (q : Int)] ++ T.data.toList.drop (k + 1) := by
            rw [ex_list, ex_list T (k + 1), digit_cut hq9, List.drop_zero]
            have : T.data.toList.take T.size = T.data.toList := List.take_of_length_le (by rw [Array.length_toList]; exact Nat.le_refl _)
            rw [this]
          rw [HTS.out.2] at hP
          obtain ⟨P1, hP1⟩ : ∃ P, T.extract 0 k = P := ⟨_, rfl⟩
          obtain ⟨P2, hP2⟩ : ∃ P, (⟨#[48, 49, 50, 51, 52, 53, 54, 55, 56, 57]⟩ : ByteArray).extract q (q + 1) = P := ⟨_, rfl⟩
          obtain ⟨P3, hP3⟩ : ∃ P, T.extract (k + 1) T.size = P := ⟨_, rfl⟩
          have hs1 : P1.size ≤ 6 := by rw [← hP1, ByteArray.size_extract]; omega
          have hs2 : P2.size ≤ 10 := by rw [← hP2, ByteArray.size_extract]; show min (q + 1) 10 - q ≤ 10; omega
          have hs3 : P3.size ≤ 6 := by rw [← hP3, ByteArray.size_extract]; omega
          rw [hP1, hP2, hP3] at hP
          rw [hP1] at hA
          rw [hP2] at hB
          rw [hP3] at hC
          push_cast at hB hC
          have hmem : T.data.toList ∈ repV (P1 ++ P2 ++ P3).data.toList := by
            rw [ByteArray.data_append, ByteArray.data_append, Array.toList_append, Array.toList_append, hP, HTS.out.2]; exact hdm
          have hV1 := in_repS hmem
          have hV2 := (repS_len (P1 ++ P2 ++ P3)).2
          obtain ⟨V, hV⟩ : ∃ V, repS (P1 ++ P2 ++ P3) = V := ⟨_, rfl⟩
          rw [hV] at hV1 hV2
          have HM := Lib.hid hV1
          have HV := Lib.hid hV
          have hbz := hbr.size
          have HBR := Lib.hid hbr
          clear hcc hu hug hdm hP hP1 hP2 hP3 hmem hbr hV1 hV
          go_wp2
          go_region
          go_wp2_with fail
          refine (impRepairs_S (P1 ++ P2 ++ P3) V _ HV.out).mono ?_
          rintro e w5 ⟨A5, c5, rfl, _, o5, b5⟩
          have HBR5 := Lib.hid (HBR.out.trans (((⟨rfl, rfl, rfl, Nat.le_refl _, fun _ _ => rfl⟩ : Below wr.heap.size wr wr.drew).trans b5).mono hbz))
          have z5 : w4.heap.size ≤ w5.heap.size := HBR5.out.size
          clear b5 hA hB hC hs1 hs2 hs3 hq hq2 hcell
          go_wp2_with fail
          refine (inTexts_yes _ _ V T w5 o5.row (by omega) HM.out).mono ?_
          rintro e w6 ⟨rfl, b6⟩
          have HBR6 := Lib.hid (HBR5.out.trans (b6.mono z5))
          clear b6 o5
          go_wp2
          go_roundw
          case rel => exact ⟨k + 1, by omega, by go_num, HBR6.out⟩
          case measure => simp [intOf]; omega
        · have hk4 : k = 4 := by omega
          subst hk4
          have c0 := ints_at hcc (show 0 < [e0, e1, e2, e3].length by simp)
          have c1 := ints_at hcc (show 1 < [e0, e1, e2, e3].length by simp)
          simp only [List.getElem_cons_zero, List.getElem_cons_succ, Nat.add_zero] at c0 c1
          have hsw := HSW.out
          obtain ⟨P1, hP1⟩ : ∃ P, T.extract 1 2 = P := ⟨_, rfl⟩
          obtain ⟨P2, hP2⟩ : ∃ P, T.extract 0 1 = P := ⟨_, rfl⟩
          obtain ⟨P3, hP3⟩ : ∃ P, T.extract 2 T.size = P := ⟨_, rfl⟩
          have hA : ∀ W, (Instr.slice 9 (.string T) (some (.int .i64 1)) (some (.int .i64 2)) none).run Try.prog W = .ok (.string P1) W := fun W => by
            have := cutMidR T 1 2 (by omega) (by have := HTS.out.1; omega) W
            rw [hP1] at this; exact this
          have hB : ∀ W, (Instr.slice 9 (.string T) none (some (.int .i64 1)) none).run Try.prog W = .ok (.string P2) W := fun W => by
            have := cutLowR T 1 (by have := HTS.out.1; omega) W
            rw [hP2] at this; exact this
          have hC : ∀ W, (Instr.slice 9 (.string T) (some (.int .i64 2)) none none).run Try.prog W = .ok (.string P3) W := fun W => by
            have := cutHighR T 2 (by have := HTS.out.1; omega) W
            rw [hP3] at this; exact this
          have hs1 : P1.size ≤ 6 := by rw [← hP1, ByteArray.size_extract]; omega
          have hs2 : P2.size ≤ 6 := by rw [← hP2, ByteArray.size_extract]; omega
          have hs3 : P3.size ≤ 6 := by rw [← hP3, ByteArray.size_extract]; omega
          have hP : P1.data.toList ++ P2.data.toList ++ P3.data.toList = (T.data.toList.take 2).drop 1 ++ T.data.toList.take 1 ++ T.data.toList.drop 2 := by
            rw [← hP1, ← hP2, ← hP3, ex_list, ex_list T 0 1, ex_list T 2, List.drop_zero]
            have : T.data.toList.take T.size = T.data.toList := List.take_of_length_le (by rw [Array.length_toList]; exact Nat.le_refl _)
            rw [this]
          have hmem : e0 ≠ e1 → T ∈ repS (P1 ++ P2 ++ P3) := fun hne => in_repS (by
            rw [ByteArray.data_append, ByteArray.data_append, Array.toList_append, Array.toList_append, hP, HTS.out.2]; exact hsw hne)
          have hV2 := (repS_len (P1 ++ P2 ++ P3)).2
          obtain ⟨V, hV⟩ : ∃ V, repS (P1 ++ P2 ++ P3) = V := ⟨_, rfl⟩
          rw [hV] at hmem hV2
          have HM := Lib.hid hmem
          have HV := Lib.hid hV
          have hbz := hbr.size
          have HBR := Lib.hid (HB14.out.trans (hbr.mono HB14.out.size))
          clear hcc hsw hP1 hP2 hP3 hP hmem hV hbr
          by_cases he : e0 = e1
          · have heb : (e0 == e1) = true := by simpa using he
            clear he
            go_wp2
            go_region
            go_wp2
            go_region
            go_wp2
            go_ret
            exact ⟨rfl, ⟨HBR.out.os, HBR.out.tape, HBR.out.output, HBR.out.size, HBR.out.block⟩⟩
          · have heb : (e0 == e1) = false := by simpa using he
            have HE := Lib.hid (HM.out he)
            clear he
            go_wp2
            go_region
            go_wp2
            go_region_with (first | (go_at_call 16; refine (impRepairs_S (P1 ++ P2 ++ P3) V _ HV.out).mono ?_; rintro e w5 ⟨A5, c5, rfl, _, o5, b5⟩) | (go_at_call 20; refine (inTexts_yes _ _ V T w5 o5.row (by omega) HE.out).mono ?_; rintro e w6 ⟨rfl, b6⟩))
            all_goals
              have HF5 := HBR.out.trans ((show Below wr.heap.size wr w5 from ⟨b5.os, b5.tape, b5.output, b5.size, b5.block⟩).mono HBR.out.size)
              have HF := Lib.hid (HF5.trans (b6.mono HF5.size))
              clear HF5 b5 b6 o5
              go_simp
              go_wp2
              go_ret
              exact ⟨rfl, HF.out⟩
    · have hcv := codeV_no hv
      have HB := Lib.hid hcv
      have hbb : ((ByteArray.mk #[]).toList != (ByteArray.mk #[]).toList) = false := by simp
      clear hcv hv
      go_wp2_with fail
      refine (impCodeText_any _ _ _ _ ho).mono ?_
      rintro e w2 ⟨rfl, hb2⟩
      rw [HB.out]
      have ho2 := ho.past hb2
      have hb12 := hb1.trans (hb2.mono hb1.size)
      clear ho hb1 hb2
      go_wp2_with fail
      refine (specCodeText_any _ _ _ _ ho2 (by omega)).mono ?_
      rintro e w3 ⟨rfl, n3, rfl⟩
      rw [HB.out]
      have ho3 := ho2.below (below_drewN (Below.refl _ _) n3)
      have hb13 := below_drewN hb12 n3
      obtain ⟨w3, hw3⟩ : ∃ w3, w2.drewN n3 = w3 := ⟨_, rfl⟩
      have hz3 : w3.heap.size = w2.heap.size := by rw [← hw3]; rfl
      rw [hw3] at ho3 hb13 ⊢
      rw [← hz3] at ho3
      clear ho2 hb12 hw3 hz3
      go_wp2_with fail
      refine (impCodeText_any _ _ _ _ ho3).mono ?_
      rintro e w4 ⟨rfl, hb4⟩
      rw [HB.out]
      have HB14 := Lib.hid (hb13.trans (hb4.mono hb13.size))
      clear ho3 hb13 hb4
      go_wp2
      go_ret
      exact ⟨rfl, HB14.out⟩
  · go_enter Try.func6, Try.ntmps6
    go_wp2
    go_ret
    exact ⟨rfl, Below.refl _ _⟩
end Go.Proofs.Ytempfagjbpnlcaa
