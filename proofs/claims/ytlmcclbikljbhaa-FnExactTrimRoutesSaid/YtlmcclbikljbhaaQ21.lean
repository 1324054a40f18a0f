/- The walk of the law FnTrimRoutes. No condition. -/
import Derived.Test.YtlmcclbikljbhaaQ20
namespace Go.Proofs.Ytlmcclbikljbhaa
open Go.RowKit

theorem trimV_bd (rs : List (ByteArray × Int)) : (trimV rs).length ≤ rs.length ∧ Short (trimV rs) := by
  by_cases h : routesB rs = true
  · have e : trimV rs = tr rs := by rw [trimV, if_pos h]
    obtain ⟨⟨h1, _⟩, _, h3⟩ := tr_office h
    rw [e]
    exact ⟨h3, fun r hr => ((routesB_iff.1 h1).2.1 r hr).1⟩
  · rw [trimV, if_neg h]
    exact ⟨by simp, fun r hr => by simp at hr⟩

set_option maxRecDepth 100000 in
set_option maxHeartbeats 8000000 in
theorem trimRoutes_law (A : Option Addr) (c : Nat) (zs : List Int) (w : World) (hr : Own w 0 w.heap.size A (zs.map (Value.int .u8))) (hx : zs.length ≤ c ∧ c ≤ maxLen ∧ ∀ z ∈ zs, (Lit.int .u8 z).wf = true) :
    Calls Try.prog 6 #[.slice A zs.length c] w fun e w' => e = .returned (.bool true) ∧ Below w.heap.size w w' := by
  have hl : zs.length ≤ 9223372036854775807 := by have := hx.1; have := hx.2.1; unfold maxLen at this; omega
  have HX := Lib.hid hx
  clear hx
  by_cases h20 : zs.length ≤ 1048576
  · go_enter Try.func6, Try.ntmps6
    go_wp2_with fail
    refine (drawTrimRoutes_any _ _ _ _ hr HX.out).mono ?_
    rintro e w1 ⟨A1, c1, rs, rfl, h8, hdc, htw, ho, hb1⟩
    have HM := Lib.hid (show ∀ r ∈ rs, r.1.size ≤ 1048576 from fun r h => by have := htw r h; omega)
    have HM9 := Lib.hid (show ∀ r ∈ rs, r.1.size ≤ 9000000000000000000 from fun r h => by have := htw r h; omega)
    obtain ⟨hVl, hVs⟩ := trimV_bd rs
    obtain ⟨V, hV⟩ : ∃ V, trimV rs = V := ⟨_, rfl⟩
    rw [hV] at hVl hVs
    have HV := Lib.hid hV
    have HVM := Lib.hid (show ∀ r ∈ V, r.1.size ≤ 1048576 from fun r h => by have := hVs r h; omega)
    have hV8 : V.length ≤ 8 := by omega
    clear htw hV hVs
    go_wp2_with fail
    refine (impTrim_any _ _ _ _ ho hdc (by omega) HM.out).mono ?_
    rw [HV.out]
    rintro e w2 ⟨A2, c2, rfl, hc2, o2, hb2⟩
    have ho2 := ho.past hb2
    go_wp2_with fail
    refine (specTrim_any _ _ _ _ ho2 (by omega) HM.out).mono ?_
    rw [HV.out]
    rintro e w3 ⟨A3, c3, rfl, hc3, o3, hb3⟩
    have ho3 := ho2.past hb3
    have o23 := o2.past hb3
    have hb13 := (hb1.trans (hb2.mono hb1.size)).trans (hb3.mono (Nat.le_trans hb1.size hb2.size))
    clear ho ho2 o2 hb1 hb2 hb3
    go_wp2_with fail
    refine (equalRoutes_self _ _ _ _ _ _ (o23.row) (o3.row) (by omega)).mono ?_
    rintro e w4 ⟨rfl, n4, hw4⟩
    have hb4 : Below w3.heap.size w3 w4 := by rw [hw4]; exact below_drewN (Below.refl _ _) n4
    have ho4 := ho3.past hb4
    have o4 := o23.past hb4
    have hb14 := hb13.trans (hb4.mono hb13.size)
    clear hw4 o3 o23 ho3 hb13 hb4
    go_wp2_with fail
    refine (impValidRoutes_any _ _ _ _ ho4 hdc HM9.out).mono ?_
    rintro e w5 ⟨rfl, hb5⟩
    have ho5 := ho4.past hb5
    have o5 := o4.past hb5
    have hb15 := hb14.trans (hb5.mono hb14.size)
    clear ho4 o4 hb14 hb5
    by_cases hv : routesB rs = true
    · rw [hv]
      have HOF := Lib.hid (show ∀ t, officeP V t = officeP rs t by
        rw [← HV.out, trimV, if_pos hv]; exact (tr_office hv).1.2)
      have HAG := Lib.hid (show trimV V = V by rw [← HV.out]; exact trimV_again hv)
      clear hv
      go_wp2_with fail
      refine (allDigits_any w5).mono ?_
      rintro e w6 ⟨AT, cT, ts, rfl, ht256, hfew, hot, hb6⟩
      have HMO := Lib.hid (o5.past hb6)
      have HO6 := Lib.hid (ho5.past hb6)
      have HOT := Lib.hid hot
      have hb16 := hb15.trans (hb6.mono hb15.size)
      have HB16 := Lib.hid hb16
      have hz16 := hb16.size
      clear o5 ho5 hb15 hot hb6 hfew hb16
      go_wp2
      go_loopw [6] (fun i wr => ∃ k : Nat, k ≤ ts.length ∧ i = .int .i64 k ∧ Below w6.heap.size w6 wr) (fun i _ => ts.length - (intOf i).toNat)
      case atStart => exact ⟨0, by omega, rfl, Below.refl _ _⟩
      case round =>
        obtain ⟨k, hk, rfl, hbr⟩ := hrel
        have HBR := Lib.hid hbr
        have hbz := hbr.size
        obtain ⟨W, hW⟩ : ∃ W : World, W = wr := ⟨_, rfl⟩
        subst hW
        by_cases hlt : k < ts.length
        · obtain ⟨bt, ot, rfl, hbt, hct⟩ := (HOT.out.below hbr).open (by simp; omega)
          have hc := hct k (.string ts[k]) (by simp [List.getElem?_eq_getElem hlt])
          obtain ⟨t, hte⟩ : ∃ t, ts[k] = t := ⟨_, rfl⟩
          rw [hte] at hc
          have hkI : (k : Int) < ts.length := by omega
          have hk0 : (0 : Int) ≤ (k : Int) := by omega
          have hbtW : bt < W.heap.size := by omega
          obtain ⟨v, hv⟩ : ∃ v, officeP rs t = v := ⟨_, rfl⟩
          have hvv : (v != v) = false := by simp
          have HQ1 := Lib.hid (show ∀ X, Below W.heap.size W X → Calls Try.prog 23 #[.slice A2 V.length c2, .string t] X fun e w' => e = .returned (.int .i64 v) ∧ Below X.heap.size X w' from fun X hX => by
            have := impOfficeOf_any A2 c2 V t X (((HMO.out.below (HBR.out.trans (hX.mono hbz))).more (Nat.le_trans hbz hX.size)).row) hc2 (by omega) HVM.out
            rwa [HOF.out, hv] at this)
          have HQ2 := Lib.hid (show ∀ X, Below W.heap.size W X → Calls Try.prog 23 #[.slice A1 rs.length c1, .string t] X fun e w' => e = .returned (.int .i64 v) ∧ Below X.heap.size X w' from fun X hX => by
            have := impOfficeOf_any A1 c1 rs t X ((HO6.out.below (HBR.out.trans (hX.mono hbz))).more (Nat.le_trans hbz hX.size)) hdc (by omega) HM.out
            rwa [hv] at this)
          have q4 : Below W.heap.size W W.drew := ⟨rfl, rfl, rfl, Nat.le_refl _, fun _ _ => rfl⟩
          have HC := Lib.hid hc
          clear hct hte hbr hv hc
          go_wp2
          go_region_held3 (fun w' => w'.cell? ⟨bt, ot + k, none⟩ = some (.string t))
            (first | exact cell_stay q6 hbtW HC.out | exact cell_stay q5 hbtW HC.out | exact cell_stay q4 hbtW HC.out)
            ((first
              | (go_at_call 23; ((with_reducible refine (HQ1.out _ q5).mono ?_); rintro e wy ⟨rfl, by6⟩); have q6 : Below W.heap.size W wy := q5.trans (by6.mono q5.size))
              | (go_at_call 23; ((with_reducible refine (HQ2.out _ q5).mono ?_); rintro e wy ⟨rfl, by6⟩); have q6 : Below W.heap.size W wy := q5.trans (by6.mono q5.size))
              | (go_at_call 23; ((with_reducible refine (HQ1.out _ q4).mono ?_); rintro e wx ⟨rfl, bx5⟩); have q5 : Below W.heap.size W wx := q4.trans (bx5.mono q4.size))
              | (go_at_call 23; ((with_reducible refine (HQ2.out _ q4).mono ?_); rintro e wx ⟨rfl, bx5⟩); have q5 : Below W.heap.size W wx := q4.trans (bx5.mono q4.size))))
          all_goals
            have HQ6 := Lib.hid q6
            clear q4 q5 q6 bx5 by6
            go_simp
            go_wp2
            go_roundw
            case rel => exact ⟨k + 1, by omega, by go_num, HBR.out.trans (HQ6.out.mono hbz)⟩
            case measure => simp [intOf]; omega
        · have hkd : decide (k < ts.length) = false := decide_eq_false hlt
          have oW := HMO.out.past (show Below w6.heap.size w6 W from hbr)
          have HBF := Lib.hid (HB16.out.trans (hbr.mono hz16))
          have hVr : (V.length : Int) ≤ rs.length := by omega
          clear hbr
          go_wp2_with fail
          refine (impTrim_any _ _ _ _ (oW.row) hc2 (by omega) HVM.out).mono ?_
          rw [HAG.out]
          rintro e w7 ⟨A7, c7, rfl, hc7, o7, hb7⟩
          have oW7 := oW.past hb7
          have hb17 := HBF.out.trans (hb7.mono HBF.out.size)
          clear oW hb7
          go_wp2_with fail
          refine (equalRoutes_self _ _ _ _ _ _ (o7.row) (oW7.row) (by omega)).mono ?_
          rintro e w8 ⟨rfl, n8, hw8⟩
          have hb8 : Below w7.heap.size w7 w8 := by rw [hw8]; exact below_drewN (Below.refl _ _) n8
          clear hw8
          go_wp2_with fail
          go_ret
          exact ⟨rfl, hb17.trans (hb8.mono hb17.size)⟩
    · have hv' : routesB rs = false := by simpa using hv
      rw [hv']
      clear hv hv'
      go_wp2_with fail
      refine (specTrim_any _ _ _ _ ho5 (by omega) HM.out).mono ?_
      rw [HV.out]
      rintro e w6 ⟨A6, c6, rfl, hc6, o6, hb6⟩
      have o56 := o5.past hb6
      have hb16 := hb15.trans (hb6.mono hb15.size)
      go_wp2_with fail
      refine (equalRoutes_self _ _ _ _ _ _ (o56.row) (o6.row) (by omega)).mono ?_
      rintro e w7 ⟨rfl, n7, hw7⟩
      have hb7 : Below w6.heap.size w6 w7 := by rw [hw7]; exact below_drewN (Below.refl _ _) n7
      clear hw7
      go_wp2_with fail
      go_ret
      exact ⟨rfl, hb16.trans (hb7.mono hb16.size)⟩
  · go_enter Try.func6, Try.ntmps6
    go_wp2
    go_ret
    exact ⟨rfl, Below.refl _ _⟩
end Go.Proofs.Ytlmcclbikljbhaa
