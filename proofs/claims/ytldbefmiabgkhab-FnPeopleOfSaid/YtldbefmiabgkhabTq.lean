/- The walk of the law FnPeopleOf. No condition. -/
import Derived.Test.YtldbefmiabgkhabTp
import Derived.Test.YtldbefmiabgkhabDf
namespace Go.Proofs.Ytldbefmiabgkhab
open Go.RowKit

theorem isIn_yes (A : Option Addr) (c : Nat) (zs : List Int) (x : Int) (w : World) (hr : Ints w w.heap.size A zs) (hl : zs.length ≤ 1000000000) (h : x ∈ zs) :
    Calls Try.prog 22 #[.slice A zs.length c, .int .i64 x] w fun e w' => e = .returned (.bool true) ∧ w' = w := by
  have := isIn_any A c zs x w hr hl
  rw [decide_eq_true h] at this
  exact this.mono fun _ _ ⟨h1, h2⟩ => ⟨h1, h2.symm⟩

theorem own_apart_row {w w' : World} {base B : Nat} {A : Option Addr} {xs : List Int} {row : Option Nat} (h : OwnInts w base B A xs) (hB : B ≤ w.heap.size) (hg : w.grownBy w' row) (hr : ∀ i, row = some i → i < base ∨ B ≤ i) : OwnInts w' base B A xs := by
  rcases h with h | ⟨b, o, rfl, h0, hlt, hc, hf⟩
  · exact .inl h
  · have hb := hg.block b (by omega) (fun e => by have := hr b e.symm; omega)
    exact .inr ⟨b, o, rfl, h0, hlt, fun j u hu => (World.cell?_of_block (a := ⟨b, o + j, none⟩) hb).trans (hc j u hu), fun h j => (World.frozen?_of_block (a := ⟨b, j, none⟩) hb).trans (hf h j)⟩

set_option maxRecDepth 100000 in
set_option maxHeartbeats 8000000 in
theorem peopleOf_law (A : Option Addr) (c : Nat) (zs : List Int) (w : World) (hr : Own w 0 w.heap.size A (zs.map (Value.int .u8))) (hx : zs.length ≤ c ∧ c ≤ maxLen ∧ ∀ z ∈ zs, (Lit.int .u8 z).wf = true) :
    Calls Try.prog 5 #[.slice A zs.length c] w fun e w' => e = .returned (.bool true) ∧ Below w.heap.size w w' := by
  have hl : zs.length ≤ 9223372036854775807 := by have := hx.1; have := hx.2.1; unfold maxLen at this; omega
  obtain ⟨i0, hi0, hz0, hz1, hz2⟩ := info_parts Try.infoD
  have HX := Lib.hid hx
  clear hx
  by_cases h20 : zs.length ≤ 1048576
  · go_enter Try.func5, Try.ntmps5
    go_wp2_with fail
    refine (drawPeopleOf_any _ _ _ _ hr HX.out).mono ?_
    rintro e w1 ⟨B, d, rs, name, rfl, ⟨hnm0, hnm9⟩, h6, hdc, htw, ho, hb1⟩
    have HM := Lib.hid (show ∀ r ∈ rs, r.length ≤ 1000000000 from fun r h => by have := htw r h; omega)
    obtain ⟨V, hV⟩ := exists_peo rs name
    have hVl := hV.len
    have HV := Lib.hid hV
    have HO := Lib.hid ho
    have HB1 := Lib.hid hb1
    have s1 := hb1.size
    clear htw hV hb1 hr
    go_wp2_with fail
    refine (impPeopleOf_any _ _ _ _ _ _ HO.out HM.out HV.out).mono ?_
    rintro e w2 ⟨A2, c2, rfl, hc2, o2, hb2⟩
    have HB2 := Lib.hid hb2
    have O2 := Lib.hid o2
    have HO2 := Lib.hid (HO.out.past hb2)
    clear o2 hb2 hc2 ho
    go_wp2_with fail
    refine (specPeopleOf_any _ _ _ _ _ _ HO2.out (by omega) HM.out HV.out).mono ?_
    rintro e w3 ⟨A3, c3, rfl, hc3, o3, hb3⟩
    have HB3 := Lib.hid hb3
    have O3 := Lib.hid (And.intro (O2.out.keep (Nat.le_refl _) hb3) o3)
    have HO3 := Lib.hid (HO2.out.past hb3)
    clear o3 hb3 hc3
    go_wp2_with fail
    refine (equalInts_one _ _ _ _ V w3 (O3.out.1.row.more HB3.out.size) O3.out.2.row (by omega)).mono ?_
    rintro e w4 ⟨rfl, hb4⟩
    have HB4 := Lib.hid hb4
    have O4 := Lib.hid (show Ints w4 w4.heap.size A2 V from ((O3.out.1.keep HB3.out.size hb4).row).more (by have := HB3.out.size; have := hb4.size; omega))
    have HO4 := Lib.hid (HO3.out.past hb4)
    clear hb4
    go_wp2_with fail
    refine (impValidGroups_any _ _ _ _ HO4.out HM.out).mono ?_
    rintro e w' ⟨rfl, rfl⟩
    have HBB := Lib.hid (HB1.out.trans ((HB2.out.mono s1).trans ((HB3.out.mono (by have := HB2.out.size; omega)).trans (HB4.out.mono (by have := HB2.out.size; have := HB3.out.size; omega)))))
    clear s1
    have HBAD := Lib.hid (fun (X : World) (hX : X = w4) => specPeopleOf_any B d rs name V X (by rw [hX]; exact HO4.out) (by omega) HM.out HV.out)
    by_cases hg : groupsB rs = true
    · rw [hg]
      by_cases h0 : name < 0
      · have t0 : decide (name < 0) = true := decide_eq_true h0
        clear h0 hg
        go_wp2_with fail
        refine (HBAD.out w4 rfl).mono ?_
        rintro e w5 ⟨A5, c5, rfl, hc5, o5, hb5⟩
        have HB5 := Lib.hid (HBB.out.trans (hb5.mono HBB.out.size))
        have O5 := Lib.hid (And.intro (O4.out.past hb5) o5)
        clear o5 hb5 hc5
        go_wp2_with fail
        refine (equalInts_one _ _ _ _ V w5 O5.out.1 O5.out.2.row (by omega)).mono ?_
        rintro e w6 ⟨rfl, hb6⟩
        have HB6 := Lib.hid (HB5.out.trans (hb6.mono HB5.out.size))
        clear hb6
        go_wp2_with fail
        go_ret
        exact ⟨rfl, HB6.out⟩
      · have t0 : decide (name < 0) = false := decide_eq_false h0
        by_cases h9 : 9 ≤ name
        · have t9 : decide (9 ≤ name) = true := decide_eq_true h9
          clear h0 h9 hg
          go_wp2_with fail
          refine (HBAD.out w4 rfl).mono ?_
          rintro e w5 ⟨A5, c5, rfl, hc5, o5, hb5⟩
          have HB5 := Lib.hid (HBB.out.trans (hb5.mono HBB.out.size))
          have O5 := Lib.hid (And.intro (O4.out.past hb5) o5)
          clear o5 hb5 hc5
          go_wp2_with fail
          refine (equalInts_one _ _ _ _ V w5 O5.out.1 O5.out.2.row (by omega)).mono ?_
          rintro e w6 ⟨rfl, hb6⟩
          have HB6 := Lib.hid (HB5.out.trans (hb6.mono HB5.out.size))
          clear hb6
          go_wp2_with fail
          go_ret
          exact ⟨rfl, HB6.out⟩
        · have t9 : decide (9 ≤ name) = false := decide_eq_false h9
          obtain ⟨a, rfl⟩ : ∃ a : Nat, name = a := ⟨name.toNat, by omega⟩
          have t9n : decide (9 ≤ a) = false := decide_eq_false (by omega)
          have HG := Lib.hid hg
          by_cases han : rs.length ≤ a
          · have tn : decide ((rs.length : Int) ≤ (a : Int)) = true := decide_eq_true (by omega)
            have tnn : decide (rs.length ≤ a) = true := decide_eq_true han
            have hVe : V = [(a : Int)] := peo_alone HV.out han (by omega) hg
            obtain ⟨U, hU⟩ : ∃ U, w4.alloc (.cells #[.int .i64 (a : Int)] 3) = U := ⟨_, rfl⟩
            have hbU : Below w4.heap.size w4 U := by rw [← hU]; exact (Below.refl _ _).alloc (Nat.le_refl _) _
            have hrowU : Ints U U.heap.size (some ⟨w4.heap.size, 0, none⟩) [(a : Int)] := by
              have h1 := own_of_rowS (by decide) (one_rowD w4 (a : Int))
              rw [hU] at h1
              exact h1.row
            have HEQ := Lib.hid (equalInts_one A2 (some ⟨w4.heap.size, 0, none⟩) c2 1 [(a : Int)] U (by rw [← hVe]; exact O4.out.past hbU) hrowU (by simp))
            have hV1 : V.length = 1 := by rw [hVe]; rfl
            have HBU := Lib.hid (HBB.out.trans (hbU.mono HBB.out.size))
            rw [hV1]
            clear h0 h9 hg han hVe hbU hrowU hV1 hVl
            go_wp2_with fail
            clear hU
            refine HEQ.out.mono ?_
            rintro e w6 ⟨rfl, hb6⟩
            have HB6 := Lib.hid (HBU.out.trans (hb6.mono HBU.out.size))
            clear hb6
            go_wp2_with fail
            go_ret
            exact ⟨rfl, HB6.out⟩
          · have tn : decide ((rs.length : Int) ≤ (a : Int)) = false := decide_eq_false (by omega)
            have tnn : decide (rs.length ≤ a) = false := decide_eq_false han
            have hal : a < rs.length := by omega
            have hn5 := (gr_of hg).n5
            have HMEM := Lib.hid (peo_group HV.out hg hal)
            have HUP := Lib.hid HV.out.up
            have HLO := Lib.hid ((gr_of hg).lo a hal)
            have hm4 := (gr_of hg).m4 a hal
            obtain ⟨bb, o, R, c1, rfl, hb0, hcell0, hc1, hrow⟩ := HO4.out.open hal
            have HGD := Lib.hid (getD_row hal)
            have hsz := HM.out _ (List.getElem_mem hal)
            obtain ⟨r, hre⟩ : ∃ r, rs[a] = r := ⟨_, rfl⟩
            rw [hre] at hcell0 hrow HGD hsz hm4 HLO
            rw [HGD.out] at HMEM
            have HC0 := Lib.hid hcell0
            have HR := Lib.hid hrow
            have haI : (a : Int) < (rs.length : Int) := by omega
            have HST := Lib.hid (first_litD w4)
            have hcellU := (((Below.refl w4.heap.size w4).alloc (Nat.le_refl _) (.cells #[] 3)).cell (p := ⟨bb, o + a, none⟩) hb0).trans hcell0
            clear hre hc1 hrow hcell0 h0 h9 hg han HBAD
            go_wp2_with fail
            clear hcellU tn tnn t0 t9 t9n
            go_loopw [6, 7] (fun v i wr => ∃ (k m cT : Nat) (H : Option Addr) (T : List Int), k ≤ r.length ∧ i = .int .i64 k ∧ v = .slice H m cT ∧ m ≤ 9 * k ∧ Hid (m = T.length ∧ (∀ x ∈ T, x ∈ V) ∧ ∀ z ∈ r.take k, ∀ x : Int, (rs.length : Int) ≤ x → Rc rs (· = z) x → x ∈ T) ∧ wr.ownsRow w4.heap.size 3 1 (.slice H m cT) m (T.map (Value.int .i64)) ∧ Below w4.heap.size w4 wr) (fun _ i _ => r.length - (intOf i).toNat)
            case atStart => exact ⟨0, 0, _, _, [], by omega, rfl, rfl, by omega, Lib.hid ⟨rfl, by simp, by simp⟩, HST.out, (Below.refl _ _).alloc (Nat.le_refl _) _⟩
            case round =>
              clear HST
              obtain ⟨k, m, cT, H, T, hk, rfl, rfl, hm9, HT, hown, hbr⟩ := hrel
              have HW := Lib.hid hown
              have HBR := Lib.hid hbr
              have hbz := hbr.size
              have hcell := (hbr.cell (p := ⟨bb, o + a, none⟩) hb0).trans HC0.out
              by_cases hlt : k < r.length
              · have hkI : (k : Int) < (r.length : Int) := by omega
                obtain ⟨wo, hwo⟩ : ∃ W : World, W = wr := ⟨_, rfl⟩
                subst hwo
                obtain ⟨b', o', rfl, hb', hc'⟩ := (HR.out.below hbr).open (by simp; omega)
                have q0 := ints_at hc' hlt
                have HTK := Lib.hid (List.take_succ_eq_append_getElem hlt)
                have HZM := Lib.hid (List.getElem_mem hlt)
                obtain ⟨z, hz⟩ : ∃ z, r[k] = z := ⟨_, rfl⟩
                rw [hz] at q0 HTK HZM
                obtain ⟨Vz, hVz⟩ := exists_peo rs z
                have hVzl := hVz.len
                have HVM := Lib.hid (hVz.mem HG.out (HLO.out z HZM.out))
                have HPZ := Lib.hid (impPeopleOf_any _ d rs z Vz wo ((HO4.out.below hbr).more hbz) HM.out hVz)
                clear hz hc' hVz hown hbr
                go_wp2_with fail
                refine HPZ.out.mono ?_
                rintro e w6 ⟨A6, c6, rfl, hc6, o6, hb6⟩
                have hs6 := hb6.size
                have HW6 := Lib.hid (own_keepR HW.out hb6)
                have HB6 := Lib.hid (HBR.out.trans (hb6.mono hbz))
                have HLT6 := Lib.hid (show ∀ i, (Value.slice H m cT).ownBlock = some i → i < wo.heap.size from fun i hi => (HW.out.lt i hi).2)
                have O6 := Lib.hid o6
                clear o6 hb6 hc6 hcell q0
                go_wp2_with fail
                go_loopw [6, 9] (fun v i wr => ∃ (j m' cT' : Nat) (H' : Option Addr), j ≤ Vz.length ∧ i = .int .i64 j ∧ v = .slice H' m' cT' ∧ m' ≤ 9 * k + j ∧ Hid (m' = (T ++ Vz.take j).length ∧ ∀ i, (Value.slice H' m' cT').ownBlock = some i → i < wo.heap.size ∨ w6.heap.size ≤ i) ∧ wr.ownsRow w4.heap.size 3 1 (.slice H' m' cT') m' ((T ++ Vz.take j).map (Value.int .i64)) ∧ OwnInts wr wo.heap.size w6.heap.size A6 Vz ∧ w6.heap.size ≤ wr.heap.size ∧ Below w4.heap.size w4 wr) (fun _ i _ => Vz.length - (intOf i).toNat)
                case atStart => exact ⟨0, m, cT, H, by omega, rfl, rfl, by omega, Lib.hid ⟨by simp [HT.out.1], fun i hi => .inl (HLT6.out i hi)⟩, by rw [List.take_zero, List.append_nil]; exact HW6.out, O6.out, Nat.le_refl _, HB6.out⟩
                case round =>
                  clear HW6 HB6 O6 HLT6
                  obtain ⟨j, m', cT', H', hj, rfl, rfl, hm', HMM, hown, ho6, hsx, hbx⟩ := hrel
                  have HWX := Lib.hid hown
                  have HBX := Lib.hid hbx
                  have HO6 := Lib.hid ho6
                  have hbzx := hbx.size
                  by_cases hlj : j < Vz.length
                  · obtain ⟨bv, ov, rfl, hbv, hcv⟩ := ho6.open (by simp; omega)
                    have q1 := ints_at hcv hlj
                    have HTJ := Lib.hid (List.take_succ_eq_append_getElem hlj)
                    have HXM := Lib.hid (List.getElem_mem hlj)
                    obtain ⟨x, hx⟩ : ∃ x, Vz[j] = x := ⟨_, rfl⟩
                    rw [hx] at q1 HTJ HXM
                    have HIN := Lib.hid (isIn_yes A2 c2 V x wr ((O4.out.below hbx).more hbzx) (by omega) ((HMEM.out x).2 ⟨z, HZM.out, (HVM.out x).1 HXM.out⟩))
                    have hjI : (j : Int) < (Vz.length : Int) := by omega
                    clear hcv hx hown ho6 hbx
                    go_wp2_with (first | (go_at_call 22; (with_reducible refine HIN.out.mono ?_); rintro e w' ⟨rfl, rfl⟩) | (at_builtin; refine wpList_push_in rfl (.tmp 85) (.tmp 90) 24 rfl i0 (.int .i64 0) 8 Try.underlying24 hi0 hz0 hz1 hz2 rfl (by decide) _ _ rfl HWX.out [.int .i64 x] rfl _ rfl rfl (by simp [Value.oneCell']) (by omega) (by omega) hbzx ?_))
                    intro H7 c7 w7 hown7 hg7 hat7
                    have hs7 := hg7.size
                    have HW7 := Lib.hid (And.intro hown7 (And.intro (own_apart_row HO6.out hsx hg7 HMM.out.2) (HBX.out.grown hg7 hbzx (fun i hi => (HWX.out.lt _ hi).1))))
                    have HAT := Lib.hid (show ∀ i, (Value.slice H7 (m' + 1) c7).ownBlock = some i → i < wo.heap.size ∨ w6.heap.size ≤ i from fun i hi => by
                      rw [slice_block] at hi
                      rcases hat7 with h | h
                      · exact HMM.out.2 i (by rw [slice_block, ← h]; exact hi)
                      · obtain ⟨a7, h1, h2⟩ := h
                        rw [h1] at hi
                        simp at hi
                        right; omega)
                    clear hown7 hg7 hat7 q1
                    go_wp2
                    go_roundw
                    case rel => exact ⟨j + 1, m' + 1, c7, H7, by omega, by go_num, rfl, by omega, Lib.hid ⟨by rw [HTJ.out, ← List.append_assoc, List.length_append, ← HMM.out.1]; rfl, HAT.out⟩, by rw [HTJ.out]; simpa using HW7.out.1, HW7.out.2.1, by omega, HW7.out.2.2⟩
                    case measure => simp [intOf]; omega
                  · have hje : j = Vz.length := by omega
                    subst hje
                    have HN := Lib.hid (show m' = (T ++ Vz).length ∧ (∀ x ∈ T ++ Vz, x ∈ V) ∧ ∀ u ∈ r.take (k + 1), ∀ x : Int, (rs.length : Int) ≤ x → Rc rs (· = u) x → x ∈ T ++ Vz by
                      have h1 := HMM.out.1
                      rw [List.take_length] at h1
                      refine ⟨h1, fun x hx => ?_, fun u hu x hx1 hx2 => ?_⟩
                      · rcases List.mem_append.1 hx with h | h
                        · exact HT.out.2.1 x h
                        · exact (HMEM.out x).2 ⟨z, HZM.out, (HVM.out x).1 h⟩
                      · rw [HTK.out] at hu
                        rcases List.mem_append.1 hu with h | h
                        · exact List.mem_append_left _ (HT.out.2.2 u h x hx1 hx2)
                        · simp only [List.mem_singleton] at h
                          subst h
                          exact List.mem_append_right _ ((HVM.out x).2 ⟨hx1, hx2⟩))
                    have HWF := Lib.hid (show wr.ownsRow w4.heap.size 3 1 (.slice H' m' cT') m' ((T ++ Vz).map (Value.int .i64)) by have := HWX.out; rwa [List.take_length] at this)
                    clear hown ho6 hbx
                    go_wp2_with fail
                    go_roundw
                    case rel => exact ⟨k + 1, m', cT', H', T ++ Vz, by omega, by go_num, rfl, by omega, Lib.hid HN.out, HWF.out, HBX.out⟩
                    case measure => simp [intOf]; omega
              · have hke : k = r.length := by omega
                subst hke
                have hmeq := HT.out.1
                have HDF := Lib.hid (diffC_same (T := T) (nodup_up HUP.out) (fun x => ⟨HT.out.2.1 x, fun hx => by
                  obtain ⟨z, hz, h1, h2⟩ := (HMEM.out x).1 hx
                  have h3 := HT.out.2.2
                  rw [List.take_length] at h3
                  exact h3 z hz x h1 h2⟩))
                have HD2 := Lib.hid (different2_any H cT T wr (own_of_rowS (by decide) HW.out).row (by rw [← hmeq]; exact own_cap HW.out) (by omega))
                rw [HDF.out, ← hmeq] at HD2
                have HAS := Lib.hid (fun (q : Nat) => ascends_any A2 c2 V (wr.drewN q) ((O4.out.below (below_drewN hbr q)).more (by exact hbz)) (by omega) HUP.out)
                have HFB := Lib.hid (fun (q : Nat) => HBB.out.trans ((below_drewN HBR.out q).mono HBB.out.size))
                have hvv : ((V.length : Int) == (V.length : Int)) = true := by simp
                clear hown hbr hmeq
                go_wp2_with fail
                refine HD2.out.mono ?_
                rintro e w8 ⟨rfl, q, rfl⟩
                go_wp2_with fail
                refine (HAS.out q).mono ?_
                rintro e w9 ⟨rfl, q2, rfl⟩
                go_wp2_with fail
                go_ret
                exact ⟨rfl, HFB.out _⟩
    · have hg' : groupsB rs = false := by simpa using hg
      rw [hg']
      clear hg hg'
      go_wp2_with fail
      refine (HBAD.out w4 rfl).mono ?_
      rintro e w5 ⟨A5, c5, rfl, hc5, o5, hb5⟩
      have HB5 := Lib.hid (HBB.out.trans (hb5.mono HBB.out.size))
      have O5 := Lib.hid (And.intro (O4.out.past hb5) o5)
      clear o5 hb5 hc5
      go_wp2_with fail
      refine (equalInts_one _ _ _ _ V w5 O5.out.1 O5.out.2.row (by omega)).mono ?_
      rintro e w6 ⟨rfl, hb6⟩
      have HB6 := Lib.hid (HB5.out.trans (hb6.mono HB5.out.size))
      clear hb6
      go_wp2_with fail
      go_ret
      exact ⟨rfl, HB6.out⟩
  · go_enter Try.func5, Try.ntmps5
    go_wp2
    go_ret
    exact ⟨rfl, Below.refl _ _⟩
end Go.Proofs.Ytldbefmiabgkhab
