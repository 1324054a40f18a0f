/- The walk of the law FnRulesAreHeads. No condition. -/
import Derived.Test.YtamkaodbegjfpaaDoorXi
import Derived.Test.YtamkaodbegjfpaaDoorXh
import Derived.Test.YtamkaodbegjfpaaDoorX9
namespace Go.Proofs.YtamkaodbegjfpaaDoor
open Go.RowKit

theorem all_valid {rs : List (ByteArray × Int)} (h : rulesB rs = true) (h7 : rs.length ≠ 7) : rulesB ((ByteArray.empty, 5) :: rs) = true := by
  have := rulesB_iff.1 h
  rw [rulesB_iff]
  refine ⟨fun r hr => ?_, by simp; omega⟩
  rcases List.mem_cons.1 hr with rfl | hr
  · decide
  · exact this.1 r hr
theorem all_shadR {rs : List (ByteArray × Int)} (h : rulesB ((ByteArray.empty, 5) :: rs) = true) : (shadR ((ByteArray.empty, 5) :: rs)).length = rs.length := by
  rw [shadR, if_pos h]; exact all_shadT rs 5 rs.length (Nat.le_refl _)
theorem all_trimR {rs : List (ByteArray × Int)} (h : rulesB ((ByteArray.empty, 5) :: rs) = true) : trimR ((ByteArray.empty, 5) :: rs) = [(ByteArray.empty, 5)] := by
  rw [trimR, if_pos h]; exact trim_all 5 (by omega) rs.length rs rfl
theorem all_boxOf {rs : List (ByteArray × Int)} (h : rulesB ((ByteArray.empty, 5) :: rs) = true) : boxOfV ((ByteArray.empty, 5) :: rs) ⟨#[97, 98, 97, 98]⟩ = 5 := by
  unfold boxOfV
  rw [h, show wordB ⟨#[97, 98, 97, 98]⟩ = true from by decide, boxV_first]; rfl

set_option maxRecDepth 100000 in
set_option maxHeartbeats 4000000 in
theorem rulesAreHeads_law (A : Option Addr) (c : Nat) (zs : List Int) (w : World) (hr : Own w 0 w.heap.size A (zs.map (Value.int .u8))) (hx : zs.length ≤ c ∧ c ≤ maxLen ∧ ∀ z ∈ zs, (Lit.int .u8 z).wf = true) :
    Calls Tryd.prog 3 #[.slice A zs.length c] w fun e w' => e = .returned (.bool true) ∧ Below w.heap.size w w' := by
  have hl : zs.length ≤ 9223372036854775807 := by have := hx.1; have := hx.2.1; unfold maxLen at this; omega
  obtain ⟨i0, hi0, hz0, hz1, hz2⟩ := info_parts Tryd.infoU
  have HX := Lib.hid hx
  clear hx
  by_cases h20 : zs.length ≤ 1048576
  · go_enter Tryd.func3, Tryd.ntmps3
    go_wp2_with fail
    refine (drawShadowedOf_any _ _ _ _ hr HX.out).mono ?_
    rintro e w1 ⟨A1, c1, rs, rfl, h8, hdc, htw, ho, hb1⟩
    have HM := Lib.hid htw.le
    clear htw
    have hvl : (shadR rs).length ≤ 8 := by
      unfold shadR
      split
      · exact Nat.le_trans (shadT_len rs rs.length) h8
      · simp
    obtain ⟨V, hV⟩ : ∃ V, shadR rs = V := ⟨_, rfl⟩
    have HV := Lib.hid hV
    rw [hV] at hvl
    have HEQ := Lib.hid (show eqI V V = true by simp [eqI])
    clear hV
    go_wp2_with fail
    refine (impShadowedOf_any _ _ _ _ ho hdc HM.out).mono ?_
    rw [HV.out]
    rintro e w2 ⟨A2, c2, rfl, hc2, ov, hb2⟩
    have ho2 := ho.past hb2
    have hb12 := hb1.trans (hb2.mono hb1.size)
    go_wp2_with fail
    refine (specShadowedOf_any _ _ _ _ ho2 (by omega) HM.out).mono ?_
    rw [HV.out]
    rintro e w3 ⟨A3, c3, rfl, hc3, os, hb3⟩
    have ho3 := ho2.past hb3
    have ov3 := ov.row.past hb3
    have hb13 := hb12.trans (hb3.mono hb12.size)
    go_wp2_with fail
    refine (equalInts_any _ _ _ _ _ _ _ ov3 os.row (by omega)).mono ?_
    rw [HEQ.out]
    rintro e w4 ⟨rfl, n4, hw4⟩
    have hb4 : Below w3.heap.size w3 w4 := by rw [hw4]; exact below_drewN (Below.refl _ _) n4
    have ho4 := ho3.past hb4
    have hb14 := hb13.trans (hb4.mono hb13.size)
    have hz14 := hb14.size
    have hva := impValidRules_any A1 c1 rs w4 ho4 (fun r h => Nat.le_trans (HM.out r h) (by omega))
    clear hw4 hb4 hb13 hb3 hb12 hb2 hb1 ho ho2 ho3 ov ov3 os
    have HO4 := Lib.hid ho4
    have HB14 := Lib.hid hb14
    clear ho4 hb14
    by_cases hv : rulesB rs = true
    · rw [hv] at hva
      have HVA := Lib.hid hva
      have HRV := Lib.hid hv
      have h7 := rulesB_len hv
      clear hva hv
      go_wp2_with fail
      refine HVA.out.mono ?_
      rintro e w5 ⟨rfl, hb5⟩
      have HB15 := Lib.hid (HB14.out.trans (hb5.mono hz14))
      have hz15 := HB15.out.size
      have ho5 := HO4.out.past hb5
      clear hb5
      by_cases h77 : rs.length = 7
      · have h7b : ((rs.length : Int) == 7) = true := beq_iff_eq.2 (by omega)
        clear h77 ho5
        go_wp2
        go_ret
        exact ⟨rfl, HB15.out⟩
      · have h7b : ((rs.length : Int) == 7) = false := beq_eq_false_iff_ne.2 (by omega)
        have hav := all_valid HRV.out h77
        have h6 : rs.length ≤ 6 := by omega
        have HSL := Lib.hid (all_shadR hav)
        have HTR := Lib.hid (all_trimR hav)
        have HBX := Lib.hid (all_boxOf hav)
        have hown0 : (w5.alloc (.cells #[.string ByteArray.empty, .int .i64 5] 30)).ownsRow w5.heap.size 30 2 (.slice (some ⟨w5.heap.size, 0, none⟩) 1 1) 1 [.string ByteArray.empty, .int .i64 5] := World.ownsRow_lit w5 #[.string ByteArray.empty, .int .i64 5] 1 (Nat.le_refl _) (by simp [maxLen]) rfl
        have hor := ho5.below ((Below.refl _ _).alloc (Nat.le_refl _) (.cells #[.string ByteArray.empty, .int .i64 5] 30))
        have HON := Lib.hid (flatU_ones rs)
        have HO5 := Lib.hid ho5
        clear h77 hav ho5
        go_wp2_with (at_builtin; refine wpList_extend rfl (.tmp 26) (.tmp 27) 23 rfl i0 (.agg #[.string ⟨#[]⟩, .int .i64 0]) 24 Tryd.underlying23 hi0 hz0 hz1 hz2 rfl (by decide) _ _ rfl hown0 _ _ _ _ (flat rs) rfl (by rw [flat_length]; omega) hor HON.out (by omega) (by omega) (by simp) ?_)
        intro A6 c6 w6 hown6 hg6
        have hg56 : w5.grownBy w6 none := g_new (World.grownBy_alloc w5 _ none) hg6 (fun i hi => (hown0.lt _ hi).1)
        have hb56 := below_g hg56 (Nat.le_refl _)
        have hms : Own w6 0 w6.heap.size A6 (flat ((ByteArray.empty, 5) :: rs)) := (own_rowU hown6).row
        have hcap6 := own_cap hown6
        obtain ⟨ms, hmse⟩ : ∃ ms, (ByteArray.empty, (5 : Int)) :: rs = ms := ⟨_, rfl⟩
        have HML := Lib.hid (show ms.length = 1 + rs.length by rw [← hmse]; simp; omega)
        have HMM := Lib.hid (show ∀ r ∈ ms, r.1.size ≤ 1048576 from fun r hr => by
          rw [← hmse] at hr
          rcases List.mem_cons.1 hr with rfl | hr
          · decide
          · exact HM.out r hr)
        have HSL2 := Lib.hid (show (shadR ms).length = rs.length by rw [← hmse]; exact HSL.out)
        have HTR2 := Lib.hid (show trimR ms = [(ByteArray.empty, 5)] by rw [← hmse]; exact HTR.out)
        have HBX2 := Lib.hid (show boxOfV ms ⟨#[97, 98, 97, 98]⟩ = 5 by rw [← hmse]; exact HBX.out)
        rw [hmse] at hms
        have HB16 := Lib.hid (HB15.out.trans (hb56.mono hz15))
        have hz16 := HB16.out.size
        have htr := fun Y hY => impTrimRules_any A6 c6 ms Y hY HMM.out
        rw [HML.out, HTR2.out] at htr
        have HTRC := Lib.hid htr
        have hsh := fun Y hY => impShadowedOf_any A6 c6 ms Y hY (by rw [HML.out]; exact hcap6) HMM.out
        rw [HML.out] at hsh
        have HSHC := Lib.hid hsh
        have hbo := fun Y hY => impBoxOf_any A6 c6 ms ⟨#[97, 98, 97, 98]⟩ Y hY (by have := HML.out; omega) (by decide) HMM.out
        rw [HML.out, HBX2.out] at hbo
        have HBOC := Lib.hid hbo
        have HMS := Lib.hid hms
        clear hown0 hor hown6 hg6 hg56 hb56 hcap6 hmse htr hsh hbo hms
        go_wp2_with fail
        refine (HTRC.out w6 HMS.out).mono ?_
        rintro e w7 ⟨A7, c7, rfl, _, o7, hb7⟩
        have HB17 := Lib.hid (HB16.out.trans (hb7.mono hz16))
        have hz17 := HB17.out.size
        have hms7 := HMS.out.past hb7
        have ho7 := o7.row
        clear hb7 o7
        go_wp2_with fail
        refine (HSHC.out w7 hms7).mono ?_
        rintro e w8 ⟨A8, c8, rfl, _, _, hb8⟩
        rw [HSL2.out]
        have HB18 := Lib.hid (HB17.out.trans (hb8.mono hz17))
        have hz18 := HB18.out.size
        have hms8 := hms7.past hb8
        have ho8 := ho7.past hb8
        clear hb8 hms7 ho7
        go_wp2_with fail
        refine (HBOC.out w8 hms8).mono ?_
        rintro e w9 ⟨rfl, hb9⟩
        have HB19 := Lib.hid (HB18.out.trans (hb9.mono hz18))
        have ho9 := ho8.past hb9
        obtain ⟨b, o, rfl, hb, hcc⟩ := ho9.open (by rw [flat_length]; simp)
        obtain ⟨hc1, hc2⟩ := routes_at hcc (show 0 < [(ByteArray.empty, (5 : Int))].length by simp)
        simp only [List.getElem_cons_zero, Nat.zero_mul, Nat.add_zero] at hc1 hc2
        clear hcc hb9 hms8 ho8 ho9
        go_wp2
        go_ret
        exact ⟨rfl, HB19.out⟩
    · have hv' : rulesB rs = false := by simpa using hv
      rw [hv'] at hva
      have HVA := Lib.hid hva
      clear hva hv hv'
      go_wp2_with fail
      refine HVA.out.mono ?_
      rintro e w5 ⟨rfl, hb5⟩
      have HB15 := Lib.hid (HB14.out.trans (hb5.mono hz14))
      clear hb5
      go_wp2
      go_ret
      exact ⟨rfl, HB15.out⟩
  · go_enter Tryd.func3, Tryd.ntmps3
    go_wp2
    go_ret
    exact ⟨rfl, Below.refl _ _⟩
end Go.Proofs.YtamkaodbegjfpaaDoor
