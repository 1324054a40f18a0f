/- The walk of the law FnLostAt. No condition. -/
import Derived.Test.YtonnffilcmlodabV5
import Derived.Deep.RegionHeld3
namespace Go.Proofs.Ytonnffilcmlodab
open Go.RowKit

theorem sum_bd {zs : List Int} (hz : ∀ z ∈ zs, 0 ≤ z ∧ z ≤ 10) {k : Nat} (hk : k ≤ zs.length) : sumX zs k ≤ allL zs := by
  have h := sumX_le zs k zs.length hk
  rw [sumX_all hz] at h; exact h
theorem sum_zero {zs : List Int} (hpos : 0 < allL zs) : red (sumX zs 0) (allL zs) = red 0 1 := red_eq hpos (by omega) (by show 0 * 1 = 0 * allL zs; omega)
theorem red_zero : red 0 1 = (0, 1) := by decide
theorem red_ones : red 1 1 = (1, 1) := by decide

set_option maxRecDepth 100000 in
set_option maxHeartbeats 8000000 in
theorem lostAt_law (A : Option Addr) (c : Nat) (zs : List Int) (v0 : World) (hr : Own v0 0 v0.heap.size A (zs.map (Value.int .u8))) (hx : zs.length ≤ c ∧ c ≤ maxLen ∧ ∀ z ∈ zs, (Lit.int .u8 z).wf = true) :
    Calls Try.prog 4 #[.slice A zs.length c] v0 fun e w' => e = .returned (.bool true) ∧ Below v0.heap.size v0 w' := by
  have hl : zs.length ≤ 9223372036854775807 := by have := hx.1; have := hx.2.1; unfold maxLen at this; omega
  have HX := Lib.hid hx
  clear hx
  by_cases h20 : zs.length ≤ 1048576
  · go_enter Try.func4, Try.ntmps4
    go_wp2_with fail
    refine (drawLostAt_any _ _ _ _ hr HX.out).mono ?_
    rintro e w ⟨B, d, ys, rfl, hy6, hyd, _, hrw, hb0⟩
    have HB0 := Lib.hid hb0
    have z00 := hb0.size
    have hq5 := lostQ_short ys
    obtain ⟨q, hq⟩ : ∃ q, lostQ ys = q := ⟨_, rfl⟩
    obtain ⟨b, hb⟩ : ∃ b, lostOk ys = b := ⟨_, rfl⟩
    rw [hq] at hq5
    have HQ := Lib.hid hq
    have HB := Lib.hid hb
    have HRW := Lib.hid hrw
    have e5 : (b != b) = false := by simp
    have e6 : (b == b) = true := by simp
    clear hq hb hb0 hrw hr
    go_wp2_with fail
    refine (impLost_v _ _ ys w q b HRW.out (by omega) HQ.out HB.out).mono ?_
    rintro e w1 ⟨A1, c1, rfl, hc1, o1, hb1⟩
    have HW1 := Lib.hid hb1
    have z1 := hb1.size
    clear hb1
    go_wp2_with fail
    refine (specLost_v _ _ ys w1 q b ((HRW.out.below HW1.out).more HW1.out.size) (by omega) HQ.out HB.out).mono ?_
    rintro e w2 ⟨A2, c2, rfl, hc2, o2, hb2⟩
    have HW2 := Lib.hid (HW1.out.trans (hb2.mono z1))
    have HO1 := Lib.hid (o1.keep (by omega) hb2)
    have HO2 := Lib.hid o2
    have z2 := hb2.size
    clear hb2 o1 o2
    go_wp2_with fail
    refine (equalFracs_self _ _ _ _ q w2 (HO1.out.row.more (by omega)) (HO2.out.row.more (by omega)) (by omega)).mono ?_
    rintro e w3 ⟨rfl, hb3⟩
    have HW3 := Lib.hid (HW2.out.trans (hb3.mono (by omega)))
    have HK3 := Lib.hid hb3
    have z3 := hb3.size
    clear hb3
    cases b with
    | false =>
      go_wp2_with fail
      refine (equalFracs_self _ _ _ _ q w3 ((HO1.out.row.more (by omega)).below HK3.out |>.more z3) ((HO2.out.row.more (by omega)).below HK3.out |>.more z3) (by omega)).mono ?_
      rintro e w4 ⟨rfl, hb4⟩
      have HE := Lib.hid (HB0.out.trans ((HW3.out.trans (hb4.mono HW3.out.size)).mono z00))
      clear hb4
      go_wp2
      go_ret
      exact ⟨rfl, by first | exact HE.out | exact below_drewF HE.out⟩
    | true =>
      have hok := HB.out
      simp only [lostOk, Bool.and_eq_true, decide_eq_true_eq] at hok
      obtain ⟨hv, hpos⟩ := hok
      obtain ⟨h0, h1, h5⟩ := hops_of hv
      have HH := Lib.hid h0
      have HPOS := Lib.hid hpos
      have hql : q = lostL ys := by rw [← HQ.out, lostQ_yes HB.out]
      have hqlen : q.length = ys.length := by rw [hql, lost_len]
      have HQK := Lib.hid (fun (k : Nat) (hk : k < q.length) => show q[k] = red (xL ys k) (allL ys) by simp only [hql, lostL, List.getElem_map, List.getElem_range])
      have hal : allL ys ≤ 100000 := Nat.le_trans (Nat.sub_le _ _) (ten_le h5)
      have HAL := Lib.hid hal
      have HSE := Lib.hid (lost_end h0 hpos)
      have HSZ := Lib.hid (sum_zero hpos)
      have HF01 := Lib.hid (show Calls Try.prog 17 #[.int .i64 0, .int .i64 1] w3 fun e w' => e = .returned (.agg #[.int .i64 0, .int .i64 1]) ∧ Below w3.heap.size w3 w' from fracOf_v 0 1 0 1 w3 (by omega) (by omega) (by omega) red_zero)
      have HF11 := Lib.hid (fun X => show Calls Try.prog 17 #[.int .i64 1, .int .i64 1] X fun e w' => e = .returned (.agg #[.int .i64 1, .int .i64 1]) ∧ Below X.heap.size X w' from fracOf_v 1 1 1 1 X (by omega) (by omega) (by omega) red_ones)
      clear hql h0 hv hpos e5
      go_wp2_with fail
      refine HF01.out.mono ?_
      rintro e w4 ⟨rfl, hb4⟩
      have HK4 := Lib.hid (HK3.out.trans (hb4.mono z3))
      have HW4 := Lib.hid (HW3.out.trans (hb4.mono HW3.out.size))
      have HV := Lib.hid (show VarQ (w4.alloc (.cells #[.int .i64 0, .int .i64 1] 26)) w4.heap.size (red (sumX ys 0) (allL ys)) by rw [HSZ.out, red_zero]; exact boxQ w4 0 1)
      have HA4 := Lib.hid (belQ w4 (.cells #[.int .i64 0, .int .i64 1] 26))
      have hs8 : w3.heap.size ≤ w4.heap.size := hb4.size
      obtain ⟨s8, hs8e⟩ : ∃ s, w4.heap.size = s := ⟨_, rfl⟩
      obtain ⟨W4, hW4⟩ : ∃ W, w4.alloc (.cells #[.int .i64 0, .int .i64 1] 26) = W := ⟨_, rfl⟩
      rw [hs8e] at hs8
      rw [hW4] at HV HA4
      rw [hs8e] at HV HA4
      have hws8 : w.heap.size ≤ s8 := by omega
      have h4w : Below w.heap.size w W4 := HW4.out.trans (HA4.out.mono hws8)
      have h42 : Below w2.heap.size w2 W4 := HK4.out.trans (HA4.out.mono (by omega))
      obtain ⟨bb, oo, rfl, hbbl, hyc⟩ := ((HRW.out.below h4w).more hws8).open (by simp; omega)
      obtain ⟨bq, oq, rfl, hbql, hqc⟩ := ((HO1.out.row.more z2).below h42 |>.more (show w2.heap.size ≤ s8 by omega)).open (by rw [flatQ_length]; omega)
      have HYC := Lib.hid (fun (k : Nat) (hk : k < ys.length) => ints_at hyc hk)
      have HQC := Lib.hid (fun (k : Nat) (hk : k < q.length) => fracs_at hqc hk)
      have HBW := Lib.hid (HB0.out.trans (h4w.mono z00))
      have hv08 : v0.heap.size ≤ s8 := by omega
      clear hb4 hyc hqc h4w h42 HRW
      go_wp2_with fail
      clear hs8e hW4
      go_loopw [9] (fun i wr => ∃ k : Nat, k ≤ ys.length ∧ i = .int .i64 k ∧ Hid (VarQ wr s8 (red (sumX ys k) (allL ys))) ∧ Below s8 W4 wr) (fun i _ => ys.length - (intOf i).toNat)
      case atStart => exact ⟨0, by omega, rfl, HV, Below.refl _ _⟩
      case round =>
        obtain ⟨k, hk, rfl, HVK, hbr⟩ := hrel
        have HBR := Lib.hid hbr
        by_cases hlt : k < ys.length
        · have hkq : k < q.length := by omega
          obtain ⟨x0, x1⟩ := HQC.out k hkq
          have y0 := HYC.out k hlt
          have hqk := HQK.out k hkq
          have hs1 := sum_bd HH.out (show k ≤ ys.length by omega)
          have hx1 := xL_le HH.out hlt
          have hsum := lost_sum HPOS.out k
          have hzero := lost_zero (zs := ys) (h := k)
          have hgd : ys.getD k 0 = ys[k] := by rw [List.getD_eq_getElem?_getD, List.getElem?_eq_getElem hlt]; rfl
          rw [hgd] at hzero
          have hal := HAL.out
          have hpl := red_le (sumX ys k) (allL ys)
          have hpp := red_pos (u := sumX ys k) HPOS.out
          have hgl := red_le (xL ys k) (allL ys)
          have hgp := red_pos (u := xL ys k) HPOS.out
          obtain ⟨y, hy⟩ : ∃ y, ys[k] = y := ⟨_, rfl⟩
          obtain ⟨f, hf⟩ : ∃ f, red (sumX ys k) (allL ys) = f := ⟨_, rfl⟩
          obtain ⟨g, hg⟩ : ∃ g, red (xL ys k) (allL ys) = g := ⟨_, rfl⟩
          rw [hqk, hg] at x0 x1
          rw [hy] at y0 hzero
          rw [hf, hg] at hsum
          rw [hf] at hpl hpp HVK
          rw [hg] at hgl hgp hzero
          obtain ⟨f1, f2⟩ := f
          obtain ⟨g1, g2⟩ := g
          dsimp only at hpl hpp hgl hgp hzero x0 x1
          have HSUM := Lib.hid hsum
          have HP := Lib.hid (fun X => plusOf_any f1 f2 g1 g2 X (Nat.le_trans (Nat.mul_le_mul (show f1 ≤ 100000 by omega) (show g2 ≤ 100000 by omega)) (by decide)) (Nat.le_trans (Nat.mul_le_mul (show g1 ≤ 100000 by omega) (show f2 ≤ 100000 by omega)) (by decide)) (Nat.le_trans (Nat.mul_le_mul (show f2 ≤ 100000 by omega) (show g2 ≤ 100000 by omega)) (by decide)) (Nat.mul_pos hpp hgp))
          rw [hsum] at HP
          obtain ⟨r, hr⟩ : ∃ r, red (sumX ys (k + 1)) (allL ys) = r := ⟨_, rfl⟩
          rw [hr] at HP
          have HR := Lib.hid hr
          obtain ⟨r1, r2⟩ := r
          unfold frV at HP
          dsimp only at HP
          have hkI : (k : Int) < (q.length : Int) := by omega
          have hkI2 : (k : Int) < (ys.length : Int) := by omega
          have hk0 : (0 : Int) ≤ (k : Int) := by omega
          have hz8 : s8 < wr.heap.size := HVK.out.2.2.2.2
          have hkeep : ∀ X, Below wr.heap.size wr X → VarQ X s8 (f1, f2) ∧ (X.cell? ⟨bq, oq + k * 2, none⟩ = some (.int .i64 (g1 : Int)) ∧ X.cell? ⟨bq, oq + k * 2 + 1, none⟩ = some (.int .i64 (g2 : Int))) ∧ X.cell? ⟨bb, oo + k, none⟩ = some (.int .i64 y) := fun X hX => by
            have h2 := hbr.trans (hX.mono (by omega))
            exact ⟨HVK.out.keep hX hz8, ⟨keepF h2 hbql x0, keepF h2 hbql x1⟩, keepF h2 hbbl y0⟩
          have HK := Lib.hid hkeep
          obtain ⟨⟨a0, a1, a2, a3, _⟩, ⟨a4, a5⟩, a6⟩ := hkeep wr (Below.refl _ _)
          dsimp only at a0 a1
          have HYK := Lib.hid (show ∀ X, Below wr.heap.size wr X → X.cell? ⟨bb, oo + k, none⟩ = some (.int .i64 y) from fun X hX => (hkeep X hX).2.2)
          have HXK := Lib.hid (show ∀ X, Below wr.heap.size wr X → X.cell? ⟨bq, oq + k * 2, none⟩ = some (.int .i64 (g1 : Int)) from fun X hX => (hkeep X hX).2.1.1)
          clear hbr hs1 hx1 hsum hgd hal hpl hpp hgl hgp hy hf hg hr x0 x1 y0 hqk hkeep
          go_wp2_with fail
          go_region_with (go_at_call 18; (refine (HP.out _).mono ?_); rintro e w5 ⟨rfl, hb5⟩; have q5 : Below wr.heap.size wr w5 := Below.trans (by first | exact Below.refl _ _ | exact below_drewF (Below.refl _ _)) (hb5.mono (Nat.le_refl _)); have Q5 := Lib.hid q5; obtain ⟨⟨b0, b1, b2, b3, _⟩, ⟨b4, b5⟩, b6⟩ := HK.out w5 q5; dsimp only at b0 b1; clear hb5 q5)
          all_goals
            have hcs := cellsF_set (x := .int .i64 (r1 : Int)) (y := .int .i64 (r2 : Int)) b0 b1
            have hz5 : s8 < w5.heap.size := Nat.lt_of_lt_of_le hz8 Q5.out.size
            have hbb := ((HBR.out.trans (Q5.out.mono (by omega))).setCell (p := ⟨s8, 0, none⟩) (Nat.le_refl _) (.int .i64 (r1 : Int))).setCell (p := ⟨s8, 1, none⟩) (Nat.le_refl _) (.int .i64 (r2 : Int))
            have HFIN := Lib.hid (show VarQ ((w5.setCell ⟨s8, 0, none⟩ (.int .i64 (r1 : Int))).setCell ⟨s8, 1, none⟩ (.int .i64 (r2 : Int))) s8 (red (sumX ys (k + 1)) (allL ys)) by rw [HR.out]; exact ⟨hcs.1, hcs.2, by simp [b2], by simp [b3], by simp [World.setCell]; exact hz5⟩)
            have HBB := Lib.hid hbb
            have hb25 : Below s8 w5 ((w5.setCell ⟨s8, 0, none⟩ (.int .i64 (r1 : Int))).setCell ⟨s8, 1, none⟩ (.int .i64 (r2 : Int))) := ((Below.refl _ _).setCell (p := ⟨s8, 0, none⟩) (Nat.le_refl _) (.int .i64 (r1 : Int))).setCell (p := ⟨s8, 1, none⟩) (Nat.le_refl _) (.int .i64 (r2 : Int))
            have y0 := keepF hb25 hbbl (HYK.out _ Q5.out)
            have x0 := keepF hb25 hbql (HXK.out _ Q5.out)
            obtain ⟨FW, hFW⟩ : ∃ FW, (w5.setCell ⟨s8, 0, none⟩ (.int .i64 (r1 : Int))).setCell ⟨s8, 1, none⟩ (.int .i64 (r2 : Int)) = FW := ⟨_, rfl⟩
            rw [hFW] at HFIN HBB y0 x0
            clear hcs hbb hb25 b0 b1 b2 b3 b4 b5 b6
            by_cases hy0 : y = 0
            · have hg0 : g1 = 0 := hzero hy0
              subst hy0
              subst hg0
              go_wp2
              go_roundw
              case rel => exact ⟨k + 1, by omega, by go_num, by first | exact HFIN | exact Lib.hid (HFIN.out.keep (below_drewF (Below.refl _ _)) HFIN.out.2.2.2.2), by first | exact HBB.out | exact below_drewF HBB.out⟩
              case measure => simp [intOf]; omega
            · have t0 : (y == 0) = false := by simp [hy0]
              go_wp2
              go_roundw
              case rel => exact ⟨k + 1, by omega, by go_num, by first | exact HFIN | exact Lib.hid (HFIN.out.keep (below_drewF (Below.refl _ _)) HFIN.out.2.2.2.2), by first | exact HBB.out | exact below_drewF HBB.out⟩
              case measure => simp [intOf]; omega
        · have hke : k = ys.length := by omega
          rw [hke, HSE.out] at HVK
          obtain ⟨a0, a1, _, _, hz8⟩ := HVK.out
          dsimp only at a0 a1
          have hkeep : ∀ X, Below wr.heap.size wr X → X.cell? ⟨s8, 0, none⟩ = some (.int .i64 1) ∧ X.cell? ⟨s8, 1, none⟩ = some (.int .i64 1) := fun X hX => ⟨keepF hX hz8 a0, keepF hX hz8 a1⟩
          have HK := Lib.hid hkeep
          have e7 : ((q.length : Int) == (ys.length : Int)) = true := by simp [hqlen]
          have e8 : ((ys.length : Int) == (ys.length : Int)) = true := by simp
          have hkn : ¬ ((k : Int) < (q.length : Int)) := by omega
          have a0 : wr.cell? ⟨s8, 0, none⟩ = some (.int .i64 1) := a0
          have a1 : wr.cell? ⟨s8, 1, none⟩ = some (.int .i64 1) := a1
          clear hbr hkeep
          have q4 : Below wr.heap.size wr wr.drew := ⟨rfl, rfl, rfl, Nat.le_refl _, fun _ _ => rfl⟩
          go_wp2_with fail
          go_region_held3 (fun w' => w'.cell? ⟨s8, 0, none⟩ = some (.int .i64 1) ∧ w'.cell? ⟨s8, 1, none⟩ = some (.int .i64 1))
            (first | exact HK.out _ q5 | exact HK.out _ q4)
            ((first
              | (go_at_call 17; refine (HF11.out _).mono ?_; rintro e w5 ⟨rfl, b5⟩; have q5 : Below wr.heap.size wr w5 := q4.trans b5)
              | fail))
          have HE := Lib.hid (HBW.out.trans ((HBR.out.trans (q5.mono (by omega))).mono hv08))
          go_simp
          go_wp2
          go_ret
          exact ⟨rfl, by first | exact HE.out | exact below_drewF HE.out⟩
  · go_enter Try.func4, Try.ntmps4
    go_wp2
    go_ret
    exact ⟨rfl, Below.refl _ _⟩
end Go.Proofs.Ytonnffilcmlodab
