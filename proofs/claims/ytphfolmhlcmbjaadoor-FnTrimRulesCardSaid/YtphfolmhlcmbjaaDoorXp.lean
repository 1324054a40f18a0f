/- The walk of the law FnTrimRules. No condition. -/
import Derived.Test.YtphfolmhlcmbjaaDoorXi
import Derived.Test.YtphfolmhlcmbjaaDoorXh
import Derived.Test.YtphfolmhlcmbjaaDoorXo
import Derived.Test.YtphfolmhlcmbjaaDoorX9
import Derived.Laws.StructEq
namespace Go.Proofs.YtphfolmhlcmbjaaDoor
open Go.RowKit

set_option maxRecDepth 100000 in
set_option maxHeartbeats 1000000 in
theorem equalRules_self (A B : Option Addr) (c d : Nat) (rs : List (ByteArray × Int)) (w : World) (hr : Own w 0 w.heap.size A (flat rs)) (hs : Own w 0 w.heap.size B (flat rs)) (hl : rs.length ≤ 1048576) :
    Calls Tryd.prog 30 #[.slice A rs.length c, .slice B rs.length d] w fun e w' => e = .returned (.bool true) ∧ ∃ n, w' = w.drewN n := by
  have ht : ((rs.length : Int) != (rs.length : Int)) = false := by simp
  go_enter Tryd.func30, Tryd.ntmps30
  go_wp2
  clear ht
  go_loopw [5] (fun i wr => ∃ k : Nat, k ≤ rs.length ∧ i = .int .i64 k ∧ ∃ n, wr = w.drewN n) (fun i _ => rs.length - (intOf i).toNat)
  case atStart => exact ⟨0, by omega, rfl, 0, rfl⟩
  case round =>
    obtain ⟨k, hk, rfl, hwr⟩ := hrel
    have HWR := Lib.hid hwr
    have hbr : Below w.heap.size w wr := by obtain ⟨n, rfl⟩ := hwr; exact below_drewN (Below.refl _ _) n
    clear hwr
    by_cases hlt : k < rs.length
    · obtain ⟨b, o, rfl, hb, hc⟩ := (hr.below hbr).open (by rw [flat_length]; omega)
      obtain ⟨b', o', rfl, hb', hc'⟩ := (hs.below hbr).open (by rw [flat_length]; omega)
      obtain ⟨h1, h2⟩ := routes_at hc hlt
      obtain ⟨h3, h4⟩ := routes_at hc' hlt
      obtain ⟨s, hse⟩ : ∃ s, rs[k].1 = s := ⟨_, rfl⟩
      obtain ⟨f, hfe⟩ : ∃ f, rs[k].2 = f := ⟨_, rfl⟩
      rw [hse] at h1 h3
      rw [hfe] at h2 h4
      have hkI : (k : Int) < rs.length := by omega
      have hk0 : (0 : Int) ≤ (k : Int) := by omega
      have hn1 : (s.toList != s.toList) = false := by simp
      have hn2 : (s.toList == s.toList) = true := by simp
      have hn3 : (f == f) = true := by simp
      clear hc hc' hse hfe hbr
      go_wp2
      go_quiet (fail)
      go_simp
      go_wp2
      go_roundw
      case rel => exact ⟨k + 1, by omega, by go_num, by obtain ⟨n, hn⟩ := HWR.out; rw [hn]; exact ⟨_, World.drewN_drewN ..⟩⟩
      case measure => simp [intOf]; omega
    · have hk' : k = rs.length := by omega
      subst hk'
      go_wp2
      go_ret
      exact ⟨rfl, HWR.out⟩

theorem trimR_valid {rs : List (ByteArray × Int)} (h : rulesB rs = true) : rulesB (trimV rs) = true := rulesB_sub h (trimV_sub rs)
theorem trimR_facts {rs V : List (ByteArray × Int)} (h : rulesB rs = true) (hV : trimR rs = V) : rulesB V = true ∧ sameRulesV V rs = true ∧ trimR V = V ∧ V.length ≤ rs.length - (shadT rs rs.length).length := by
  have e : V = trimV rs := by rw [← hV, trimR, if_pos h]
  subst e
  have hv := trimR_valid h
  refine ⟨hv, ?_, ?_, trimV_len rs⟩
  · rw [sameRulesV, hv, h, trimV_same]; rfl
  · rw [trimR, if_pos hv, trimV_again]
theorem trimR_short {rs : List (ByteArray × Int)} : ∀ r ∈ trimR rs, r.1.size ≤ 1048576 := by
  unfold trimR
  split
  · rename_i h; exact fun r hr => by have := rules_short (trimR_valid h) r hr; omega
  · simp
theorem trimR_len {rs : List (ByteArray × Int)} (h8 : rs.length ≤ 8) : (trimR rs).length ≤ 8 := by
  unfold trimR
  split
  · exact Nat.le_trans (trimV_sub rs).length_le h8
  · simp

set_option maxRecDepth 100000 in
set_option maxHeartbeats 4000000 in
theorem trimRules_law (A : Option Addr) (c : Nat) (zs : List Int) (w : World) (hr : Own w 0 w.heap.size A (zs.map (Value.int .u8))) (hx : zs.length ≤ c ∧ c ≤ maxLen ∧ ∀ z ∈ zs, (Lit.int .u8 z).wf = true) :
    Calls Tryd.prog 7 #[.slice A zs.length c] w fun e w' => e = .returned (.bool true) ∧ Below w.heap.size w w' := by
  have hl : zs.length ≤ 9223372036854775807 := by have := hx.1; have := hx.2.1; unfold maxLen at this; omega
  have HX := Lib.hid hx
  clear hx
  by_cases h20 : zs.length ≤ 1048576
  · go_enter Tryd.func7, Tryd.ntmps7
    go_wp2_with fail
    refine (drawTrimRules_any _ _ _ _ hr HX.out).mono ?_
    rintro e w1 ⟨A1, c1, rs, rfl, h8, hdc, htw, ho, hb1⟩
    have HM := Lib.hid htw.le
    clear htw
    have HFA := Lib.hid (fun V hV h => trimR_facts (rs := rs) (V := V) h hV)
    have HVS := Lib.hid (trimR_short (rs := rs))
    have hvl := trimR_len h8
    obtain ⟨V, hV⟩ : ∃ V, trimR rs = V := ⟨_, rfl⟩
    have HV := Lib.hid hV
    rw [hV] at hvl HVS
    clear hV
    go_wp2_with fail
    refine (impTrimRules_any _ _ _ _ ho HM.out).mono ?_
    rw [HV.out]
    rintro e w2 ⟨A2, c2, rfl, hc2, ov, hb2⟩
    have ho2 := ho.past hb2
    have hb12 := hb1.trans (hb2.mono hb1.size)
    go_wp2_with fail
    refine (specTrimRules_any _ _ _ _ ho2 (by omega) HM.out).mono ?_
    rw [show trimQ rs = trimR rs from rfl, HV.out]
    rintro e w3 ⟨A3, c3, rfl, hc3, os, hb3⟩
    have ho3 := ho2.past hb3
    have ov3 := ov.row.past hb3
    have hb13 := hb12.trans (hb3.mono hb12.size)
    go_wp2_with fail
    refine (equalRules_self _ _ _ _ _ _ ov3 os.row (by omega)).mono ?_
    rintro e w4 ⟨rfl, n4, hw4⟩
    have hb4 : Below w3.heap.size w3 w4 := by rw [hw4]; exact below_drewN (Below.refl _ _) n4
    have ho4 := ho3.past hb4
    have ov4 := ov3.past hb4
    have hb14 := hb13.trans (hb4.mono hb13.size)
    have hz14 := hb14.size
    have hva := impValidRules_any A1 c1 rs w4 ho4 (fun r h => Nat.le_trans (HM.out r h) (by omega))
    clear hw4 hb4 hb13 hb3 hb12 hb2 hb1 ho ho2 ho3 ov ov3 os
    by_cases hv : rulesB rs = true
    · rw [hv] at hva
      have HVA := Lib.hid hva
      obtain ⟨hvv, hsame, hagain, hlen⟩ := HFA.out V HV.out hv
      have HSH := Lib.hid (show shadR rs = shadT rs rs.length by rw [shadR, if_pos hv])
      have hshl := shadT_len rs rs.length
      have HAG := Lib.hid hagain
      have hsr := fun Y h1 h2 => impSameRules_any A2 A1 c2 c1 V rs Y h1 h2 (by omega) (by omega) HVS.out HM.out
      rw [hsame] at hsr
      have HSR := Lib.hid hsr
      have HO4 := Lib.hid (And.intro ho4 ov4)
      have HB14 := Lib.hid hb14
      clear hva hv ho4 ov4 hb14 hvv hsame hagain hsr
      go_wp2_with fail
      refine HVA.out.mono ?_
      rintro e w5 ⟨rfl, hb5⟩
      have HB15 := Lib.hid (HB14.out.trans (hb5.mono hz14))
      have hz15 := HB15.out.size
      have ho5 := HO4.out.1.past hb5
      have ov5 := HO4.out.2.past hb5
      clear hb5
      go_wp2_with fail
      refine (HSR.out w5 ov5 ho5).mono ?_
      rintro e w6 ⟨rfl, hb6⟩
      have HB16 := Lib.hid (HB15.out.trans (hb6.mono hz15))
      have hz16 := HB16.out.size
      have ho6 := ho5.past hb6
      have ov6 := ov5.past hb6
      clear hb6 ho5 ov5
      go_wp2_with fail
      refine (impTrimRules_any _ _ _ _ ov6 HVS.out).mono ?_
      rw [HAG.out]
      rintro e w7 ⟨A7, c7, rfl, _, o7, hb7⟩
      have HB17 := Lib.hid (HB16.out.trans (hb7.mono hz16))
      have hz17 := HB17.out.size
      have ho7 := ho6.past hb7
      have ov7 := ov6.past hb7
      clear hb7 ho6 ov6
      go_wp2_with fail
      refine (equalRules_self _ _ _ _ _ _ o7.row ov7 (by omega)).mono ?_
      rintro e w8 ⟨rfl, n8, hw8⟩
      have hb8 : Below w7.heap.size w7 w8 := by rw [hw8]; exact below_drewN (Below.refl _ _) n8
      have HB18 := Lib.hid (HB17.out.trans (hb8.mono hz17))
      have hz18 := HB18.out.size
      have ho8 := ho7.past hb8
      clear hb8 ho7 ov7 o7 hw8
      go_wp2_with fail
      refine (impShadowedOf_any _ _ _ _ ho8 hdc HM.out).mono ?_
      rw [HSH.out]
      rintro e w9 ⟨A9, c9, rfl, _, _, hb9⟩
      have HB19 := Lib.hid (HB18.out.trans (hb9.mono hz18))
      clear hb9 ho8
      obtain ⟨L, hL⟩ : ∃ L, (shadT rs rs.length).length = L := ⟨_, rfl⟩
      rw [hL] at hlen hshl ⊢
      have hle : (V.length : Int) ≤ (rs.length : Int) - (L : Int) := by omega
      clear hL
      go_wp2
      go_ret
      exact ⟨rfl, HB19.out⟩
    · have hv' : rulesB rs = false := by simpa using hv
      rw [hv'] at hva
      have HVA := Lib.hid hva
      have HO4 := Lib.hid (And.intro ho4 ov4)
      have HB14 := Lib.hid hb14
      clear hva hv hv' ho4 ov4 hb14
      go_wp2_with fail
      refine HVA.out.mono ?_
      rintro e w5 ⟨rfl, hb5⟩
      have ho5 := HO4.out.1.past hb5
      have ov5 := HO4.out.2.past hb5
      have HB15 := Lib.hid (HB14.out.trans (hb5.mono hz14))
      clear hb5
      go_wp2_with fail
      refine (specTrimRules_any _ _ _ _ ho5 (by omega) HM.out).mono ?_
      rw [show trimQ rs = trimR rs from rfl, HV.out]
      rintro e w6 ⟨A6, c6, rfl, _, o6, hb6⟩
      have ov6 := ov5.past hb6
      have HB16 := Lib.hid (HB15.out.trans (hb6.mono HB15.out.size))
      clear hb6
      go_wp2_with fail
      refine (equalRules_self _ _ _ _ _ _ ov6 o6.row (by omega)).mono ?_
      rintro e w7 ⟨rfl, n7, hw7⟩
      have HB17 := Lib.hid (show Below w.heap.size w w7 by rw [hw7]; exact below_drewN HB16.out n7)
      clear hw7
      go_wp2
      go_ret
      exact ⟨rfl, HB17.out⟩
  · go_enter Tryd.func7, Tryd.ntmps7
    go_wp2
    go_ret
    exact ⟨rfl, Below.refl _ _⟩
end Go.Proofs.YtphfolmhlcmbjaaDoor
