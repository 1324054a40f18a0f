/- The walk of the law FnShadowedOf. No condition. -/
import Derived.Test.YtphfolmhlcmbjaaDoorXi
import Derived.Test.YtphfolmhlcmbjaaDoorXf
import Derived.Test.YtphfolmhlcmbjaaDoorX9
import Derived.Test.YtphfolmhlcmbjaaDoorX7
import Derived.Test.YtphfolmhlcmbjaaDoorDi
import Derived.Test.YtphfolmhlcmbjaaDoorAs
namespace Go.Proofs.YtphfolmhlcmbjaaDoor
open Go.RowKit

theorem shadT_isIn {rs : List (ByteArray × Int)} {i : Nat} (hi : i < rs.length) : decide ((i : Int) ∈ shadT rs rs.length) = shad rs i := by
  rw [Bool.eq_iff_iff, decide_eq_true_eq, shadT_mem]
  exact ⟨fun h => h.2, fun h => ⟨hi, h⟩⟩
theorem left_valid {rs : List (ByteArray × Int)} (h : rulesB rs = true) : rulesB (leftT rs rs.length) = true := rulesB_sub h (by have := leftT_sub (Nat.le_refl rs.length); rwa [List.take_length] at this)

set_option maxRecDepth 100000 in
set_option maxHeartbeats 4000000 in
theorem shadowedOf_law (A : Option Addr) (c : Nat) (zs : List Int) (w : World) (hr : Own w 0 w.heap.size A (zs.map (Value.int .u8))) (hx : zs.length ≤ c ∧ c ≤ maxLen ∧ ∀ z ∈ zs, (Lit.int .u8 z).wf = true) :
    Calls Tryd.prog 6 #[.slice A zs.length c] w fun e w' => e = .returned (.bool true) ∧ Below w.heap.size w w' := by
  have hl : zs.length ≤ 9223372036854775807 := by have := hx.1; have := hx.2.1; unfold maxLen at this; omega
  obtain ⟨i0, hi0, hz0, hz1, hz2⟩ := info_parts Tryd.infoU
  have HX := Lib.hid hx
  clear hx
  by_cases h20 : zs.length ≤ 1048576
  · go_enter Tryd.func6, Tryd.ntmps6
    go_wp2_with fail
    refine (drawShadowedOf_any _ _ _ _ hr HX.out).mono ?_
    rintro e w1 ⟨A1, c1, rs, rfl, h8, hdc, htw, ho, hb1⟩
    have HM := Lib.hid htw.le
    clear htw
    have HLV := Lib.hid (fun h => left_valid (rs := rs) h)
    have HSI := Lib.hid (fun i (hi : i < rs.length) => shadT_isIn hi)
    have HSD := Lib.hid (show shadR rs = if rulesB rs = true then shadT rs rs.length else [] from rfl)
    have hupv := shadT_up rs rs.length
    have hvl : (shadR rs).length ≤ 8 := by
      unfold shadR
      split
      · exact Nat.le_trans (shadT_len rs rs.length) h8
      · simp
    obtain ⟨V, hV⟩ : ∃ V, shadR rs = V := ⟨_, rfl⟩
    have HV := Lib.hid hV
    rw [hV] at hvl HSD
    have heq : eqI V V = true := by simp [eqI]
    have HEQ := Lib.hid heq
    clear hV heq
    go_wp2_with fail
    refine (impShadowedOf_any _ _ _ _ ho hdc HM.out).mono ?_
    rw [HV.out]
    rintro e w2 ⟨A2, c2, rfl, hc2, ov, hb2⟩
    have ho2 := ho.past hb2
    have hb12 := hb1.trans (hb2.mono hb1.size)
    go_wp2_with fail
    refine (specShadowedOf_any _ _ _ _ ho2 (by omega) HM.out).mono ?_
    rw [HV.out]
    rintro e w3 ⟨A3, c3, rfl, hc3, os, hb3⟩
    have ho3 := ho2.past hb3
    have ov3 := ov.row.past hb3
    have hb13 := hb12.trans (hb3.mono hb12.size)
    go_wp2_with fail
    refine (equalInts_any _ _ _ _ _ _ _ ov3 os.row (by omega)).mono ?_
    rw [HEQ.out]
    rintro e w4 ⟨rfl, n4, hw4⟩
    have hb4 : Below w3.heap.size w3 w4 := by rw [hw4]; exact below_drewN (Below.refl _ _) n4
    have ho4 := ho3.past hb4
    have ov4 := ov3.past hb4
    have hb14 := hb13.trans (hb4.mono hb13.size)
    have hz14 := hb14.size
    have hva := impValidRules_any A1 c1 rs w4 ho4 (fun r h => Nat.le_trans (HM.out r h) (by omega))
    clear hw4 hb4 hb13 hb3 hb12 hb2 hb1 ho ho2 ho3 ov ov3 os
    by_cases hv : rulesB rs = true
    · rw [hv] at hva
      have HVA := Lib.hid hva
      have HVT := Lib.hid (show V = shadT rs rs.length by rw [HSD.out, if_pos hv])
      have HLVV := Lib.hid (HLV.out hv)
      have HRV := Lib.hid hv
      have h7 := rulesB_len hv
      have HO4 := Lib.hid (And.intro ho4 ov4)
      have HB14 := Lib.hid hb14
      clear hva hv ho4 ov4 hb14
      go_wp2_with fail
      refine HVA.out.mono ?_
      rintro e w5 ⟨rfl, hb5⟩
      have HB15 := Lib.hid (HB14.out.trans (hb5.mono hz14))
      have hz15 := HB15.out.size
      have HO5 := Lib.hid (And.intro (HO4.out.1.past hb5) (HO4.out.2.past hb5))
      have hst : (w5.alloc (.cells #[] 31)).ownsRow w5.heap.size 31 2 (.slice (some ⟨w5.heap.size, 0, none⟩) 0 0) 0 [] := World.ownsRow_lit w5 #[] 0 (Nat.le_refl _) (by simp [maxLen]) rfl
      have HST := Lib.hid (And.intro hst ((Below.refl w5.heap.size w5).alloc (Nat.le_refl _) (.cells #[] 31)))
      clear hb5 hst
      go_wp2
      go_loopw [5, 6] (fun v i wr => ∃ (n : Nat) (H : Option Addr) (cH : Nat), n ≤ rs.length ∧ i = .int .i64 n ∧ v = .slice H (leftT rs n).length cH ∧ wr.ownsRow w5.heap.size 31 2 (.slice H (leftT rs n).length cH) (leftT rs n).length (flat (leftT rs n)) ∧ Below w5.heap.size w5 wr) (fun _ i _ => rs.length - (intOf i).toNat)
      case atStart => exact ⟨0, _, 0, by omega, rfl, rfl, HST.out.1, HST.out.2⟩
      case round =>
        obtain ⟨n, H, cH, hn, rfl, rfl, hown, hbr⟩ := hrel
        clear HST
        have HBR := Lib.hid hbr
        have hbz := hbr.size
        have hll : (leftT rs n).length ≤ n := by have := (leftT_sub hn).length_le; rw [List.length_take] at this; omega
        obtain ⟨W, hW⟩ : ∃ W : World, W = wr := ⟨_, rfl⟩
        subst hW
        have HO6 := Lib.hid (And.intro ((HO5.out.1.below hbr).more hbz) ((HO5.out.2.below hbr).more hbz))
        have hlh : rs.length = (leftT rs rs.length).length → True := fun _ => trivial
        have HFL := Lib.hid (fun (h : n = rs.length) => show W.ownsRow w5.heap.size 31 2 (.slice H (leftT rs rs.length).length cH) (leftT rs rs.length).length (flat (leftT rs rs.length)) ∧ (leftT rs n).length = (leftT rs rs.length).length by rw [← h]; exact ⟨hown, rfl⟩)
        obtain ⟨L, hL⟩ : ∃ L, (leftT rs n).length = L := ⟨_, rfl⟩
        have HL := Lib.hid hL
        rw [hL] at hll hown HFL
        rw [hL]
        clear hL hbr hlh
        by_cases hlt : n < rs.length
        · obtain ⟨b, o, rfl, hb, hc⟩ := HO6.out.1.open (by rw [flat_length]; omega)
          obtain ⟨hc1, hc2'⟩ := routes_at hc hlt
          have HY := Lib.hid (fun h => leftT_yes (rs := rs) (n := n) hlt h)
          have HNO := Lib.hid (fun h => leftT_no (rs := rs) (n := n) h)
          obtain ⟨s, hse⟩ : ∃ s, rs[n].1 = s := ⟨_, rfl⟩
          obtain ⟨f, hfe⟩ : ∃ f, rs[n].2 = f := ⟨_, rfl⟩
          rw [hse] at hc1
          rw [hfe] at hc2'
          have HRN := Lib.hid (show rs[n] = (s, f) by rw [← hse, ← hfe])
          have hii := isIn_any A2 c2 V (n : Int) W HO6.out.2 (by omega)
          rw [show decide ((n : Int) ∈ V) = shad rs n by rw [HVT.out]; exact HSI.out n hlt] at hii
          obtain ⟨F, hF⟩ : ∃ F, shad rs n = F := ⟨_, rfl⟩
          rw [hF] at hii HY HNO
          have HII := Lib.hid hii
          have hnI : (n : Int) < rs.length := by omega
          have hn0 : (0 : Int) ≤ (n : Int) := by omega
          clear hc hse hfe hii hF
          go_wp2_with fail
          refine HII.out.mono ?_
          rintro e w' ⟨rfl, rfl⟩
          cases F with
          | true =>
            have HN2 := Lib.hid (HNO.out rfl)
            have HW := Lib.hid hown
            clear hown
            go_wp2
            go_roundw
            case rel =>
              have e : (leftT rs (n + 1)).length = L := by rw [HN2.out, HL.out]
              refine ⟨n + 1, H, cH, by omega, by go_num, by rw [e], ?_, HBR.out⟩
              rw [e, HN2.out]
              exact HW.out
            case measure => simp [intOf]; omega
          | false =>
            have HY2 := Lib.hid (HY.out rfl)
            go_wp2_with (at_builtin; refine wpList_push rfl (.tmp 39) (.tmp 44) 23 rfl i0 (.agg #[.string ⟨#[]⟩, .int .i64 0]) 24 Tryd.underlying23 hi0 hz0 hz1 hz2 rfl (by decide) _ _ rfl hown [.string s, .int .i64 f] rfl rfl (by simp [Value.oneCell']) (by omega) (by omega) hbz ?_)
            intro H' c' w7 hown7 hg7
            have HW := Lib.hid (And.intro hown7 (HBR.out.grown hg7 hbz (fun i hi => (hown.lt _ hi).1)))
            clear hown hown7 hg7
            go_wp2
            go_roundw
            case rel =>
              have e : (leftT rs (n + 1)).length = L + 1 := by rw [HY2.out, List.length_append, HL.out]; rfl
              refine ⟨n + 1, H', c', by omega, by go_num, by rw [e], ?_, HW.out.2⟩
              rw [e, HY2.out, HRN.out, flat_append]
              exact HW.out.1
            case measure => simp [intOf]; omega
        · have hn' : n = rs.length := by omega
          obtain ⟨hfl, hfe⟩ := HFL.out hn'
          rw [hfe]
          have hcap := own_cap hfl
          have hlv := HLVV.out
          have hl7 := rulesB_len hlv
          have hsame : sameRulesV (leftT rs rs.length) rs = true := by rw [sameRulesV, hlv, HRV.out, left_same]; rfl
          have hnone : shadR (leftT rs rs.length) = [] := by rw [shadR, if_pos hlv, left_none]
          obtain ⟨ks, hks⟩ : ∃ ks, leftT rs rs.length = ks := ⟨_, rfl⟩
          rw [hks] at hfl hcap hl7 hsame hnone hlv
          rw [hks]
          have hshort : ∀ r ∈ ks, r.1.size ≤ 1048576 := fun r hr => by have := rules_short hlv r hr; omega
          have hok := (own_rowU hfl).row
          have hsr := impSameRules_any H A1 cH c1 ks rs W hok HO6.out.1 (by omega) (by omega) hshort HM.out
          rw [hsame] at hsr
          have HSR := Lib.hid hsr
          have HSH := Lib.hid (fun X hX => impShadowedOf_any H cH ks X hX hcap hshort)
          have HNONE := Lib.hid hnone
          have HOK := Lib.hid hok
          have hup : V.Pairwise (· < ·) := by rw [HVT.out]; exact hupv
          have HUP := Lib.hid hup
          have HBW := Lib.hid (HB15.out.trans (HBR.out.mono hz15))
          clear hown hfl hfe hsame hnone hks hlv hshort hok hsr hup hupv hcap hn'
          go_wp2_with fail
          refine HSR.out.mono ?_
          rintro e w7 ⟨rfl, hb7⟩
          go_wp2_with fail
          refine (HSH.out w7 (HOK.out.past hb7)).mono ?_
          rw [HNONE.out]
          rintro e w8 ⟨A8, c8, rfl, _, _, hb8⟩
          have ov8 := (HO6.out.2.past hb7).past hb8
          have HB8 := Lib.hid (HBW.out.trans ((hb7.trans (hb8.mono hb7.size)).mono HBW.out.size))
          clear hb7 hb8
          go_wp2_with fail
          refine (ascends_any _ _ _ _ ov8 (by omega) HUP.out).mono ?_
          rintro e w9 ⟨rfl, n9, hw9⟩
          have HB9 := Lib.hid (show Below w.heap.size w w9 by rw [hw9]; exact below_drewN HB8.out n9)
          clear hw9
          go_wp2
          go_ret
          exact ⟨rfl, HB9.out⟩
    · have hv' : rulesB rs = false := by simpa using hv
      rw [hv'] at hva
      have HVA := Lib.hid hva
      have HO4 := Lib.hid (And.intro ho4 ov4)
      have HB14 := Lib.hid hb14
      clear hva hv hv' ho4 ov4 hb14
      go_wp2_with fail
      refine HVA.out.mono ?_
      rintro e w5 ⟨rfl, hb5⟩
      have ho5 := HO4.out.1.past hb5
      have ov5 := HO4.out.2.past hb5
      have HB15 := Lib.hid (HB14.out.trans (hb5.mono hz14))
      clear hb5
      go_wp2_with fail
      refine (specShadowedOf_any _ _ _ _ ho5 (by omega) HM.out).mono ?_
      rw [HV.out]
      rintro e w6 ⟨A6, c6, rfl, _, o6, hb6⟩
      have ov6 := ov5.past hb6
      have HB16 := Lib.hid (HB15.out.trans (hb6.mono HB15.out.size))
      clear hb6
      go_wp2_with fail
      refine (equalInts_any _ _ _ _ _ _ _ ov6 o6.row (by omega)).mono ?_
      rw [HEQ.out]
      rintro e w7 ⟨rfl, n7, hw7⟩
      have HB17 := Lib.hid (show Below w.heap.size w w7 by rw [hw7]; exact below_drewN HB16.out n7)
      clear hw7
      go_wp2
      go_ret
      exact ⟨rfl, HB17.out⟩
  · go_enter Tryd.func6, Tryd.ntmps6
    go_wp2
    go_ret
    exact ⟨rfl, Below.refl _ _⟩
end Go.Proofs.YtphfolmhlcmbjaaDoor
