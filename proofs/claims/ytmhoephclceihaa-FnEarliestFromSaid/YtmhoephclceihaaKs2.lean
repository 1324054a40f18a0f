/- The walk of the law FnEarliestFrom. No condition. -/
import Derived.Test.YtmhoephclceihaaKn
namespace Go.Proofs.Ytmhoephclceihaa
open Go.RowKit

set_option maxRecDepth 100000 in
set_option maxHeartbeats 8000000 in
theorem earliestFrom_law (A : Option Addr) (c : Nat) (zs : List Int) (v0 : World) (hr : Own v0 0 v0.heap.size A (zs.map (Value.int .u8))) (hx : zs.length ≤ c ∧ c ≤ maxLen ∧ ∀ z ∈ zs, (Lit.int .u8 z).wf = true) :
    Calls Try.prog 9 #[.slice A zs.length c] v0 fun e w' => e = .returned (.bool true) ∧ Below v0.heap.size v0 w' := by
  have hl : zs.length ≤ 9223372036854775807 := by have := hx.1; have := hx.2.1; unfold maxLen at this; omega
  have HX := Lib.hid hx
  clear hx
  by_cases h20 : zs.length ≤ 1048576
  · go_enter Try.func9, Try.ntmps9
    go_wp2_with fail
    refine (drawEF_any _ _ _ _ hr HX.out).mono ?_
    rintro e w ⟨B, d, rs, s, τ, rfl, ⟨⟨hs0, hs1⟩, ⟨hτ0, hτ1⟩⟩, h10, hdc, hln, hrg, hb0⟩
    have HM := Lib.hid (show ∀ r ∈ rs, r.length ≤ 1000000000 from fun r h => by have := hln r h; omega)
    have HB0 := Lib.hid hb0
    have z00 := hb0.size
    clear hln hb0
    obtain ⟨q, hq⟩ : ∃ q, earlV rs s τ = q := ⟨_, rfl⟩
    have hql : q.length ≤ 5 := by rw [← hq]; exact earlV_len rs s τ
    have HV := Lib.hid hq
    have HE := Lib.hid (eqISelf q)
    clear hq
    have g0 := hrg
    clear hrg
    have p0 := Below.refl w.heap.size w
    have z0 : w.heap.size ≤ w.heap.size := Nat.le_refl _
    go_wp2_with fail
    refine (impE_any _ _ _ _ _ _ (g0.row.more (by omega)) HM.out).mono ?_
    rw [HV.out]
    rintro e w1 ⟨A1, c1, rfl, hc1, o1, e1⟩
    have z1 := e1.size
    have g1 := g0.keep (by omega) e1
    clear g0
    have a1 := o1
    clear o1
    have p1 := p0.trans (e1.mono (by omega))
    clear p0 e1
    go_wp2_with fail
    refine (specEarl_any _ _ _ _ _ _ (g1.row.more (by omega)) (by omega) HM.out).mono ?_
    rw [HV.out]
    rintro e w2 ⟨A2, c2, rfl, hc2, o2, e2⟩
    have z2 := e2.size
    have g2 := g1.keep (by omega) e2
    clear g1
    have a2 := a1.keep (by omega) e2
    clear a1
    have s2 := o2
    clear o2
    have p2 := p1.trans (e2.mono (by omega))
    clear p1 e2
    go_wp2_with fail
    refine (equalInts_any _ _ _ _ _ _ _ (a2.row.more (by omega)) (s2.row.more (by omega)) (by omega)).mono ?_
    rw [HE.out]
    rintro e w3 ⟨rfl, n3, hw3⟩
    have e3 : Below w2.heap.size w2 w3 := by rw [hw3]; exact drewBelow _ _
    clear hw3
    have z3 := e3.size
    have g3 := g2.keep (by omega) e3
    clear g2
    have a3 := a2.keep (by omega) e3
    clear a2
    have s3 := s2.keep (by omega) e3
    clear s2
    have p3 := p2.trans (e3.mono (by omega))
    clear p2 e3
    clear s3
    by_cases hq0 : q.length = 0
    · have hd0 : ((q.length : Int) == 0) = true := beq_iff_eq.2 (by omega)
      clear hq0
      go_wp2_with fail
      refine (specEarl_any _ _ _ _ _ _ (g3.row.more (by omega)) (by omega) HM.out).mono ?_
      rw [HV.out]
      rintro e w4 ⟨A4, c4, rfl, hc4, o4, e4⟩
      have z4 := e4.size
      have g4 := g3.keep (by omega) e4
      clear g3
      have a4 := a3.keep (by omega) e4
      clear a3
      have s4 := o4
      clear o4
      have p4 := p3.trans (e4.mono (by omega))
      clear p3 e4
      clear g4
      go_wp2_with fail
      refine (equalInts_any _ _ _ _ _ _ _ (a4.row.more (by omega)) (s4.row.more (by omega)) (by omega)).mono ?_
      rw [HE.out]
      rintro e w5 ⟨rfl, n5, hw5⟩
      have e5 : Below w4.heap.size w4 w5 := by rw [hw5]; exact drewBelow _ _
      clear hw5
      have z5 := e5.size
      have a5 := a4.keep (by omega) e5
      clear a4
      have s5 := s4.keep (by omega) e5
      clear s4
      have p5 := p4.trans (e5.mono (by omega))
      clear p4 e5
      go_wp2_with fail
      go_ret
      exact ⟨rfl, HB0.out.trans (p5.mono z00)⟩
    · have ht : tripB rs s τ = true := earl_nil (by rw [HV.out]; exact hq0)
      obtain ⟨hsb0, hsb1, htb0, htb1, hvv⟩ := trip_bd ht
      have hqt := (earl_parts ht).1
      have hq5 := hqt.len
      rw [HV.out] at hq5 hqt
      have hdq : ((q.length : Int) == 0) = false := beq_eq_false_iff_ne.2 (by omega)
      obtain ⟨sn, rfl⟩ := Int.eq_ofNat_of_zero_le hsb0
      obtain ⟨tn, rfl⟩ := Int.eq_ofNat_of_zero_le htb0
      have HT := Lib.hid ht
      have HQT := Lib.hid hqt
      have HVV := Lib.hid hvv
      have HQ5 := Lib.hid hq5
      have hq5a : 5 ≤ q.length := by omega
      clear ht hqt hq0 hvv hq5
      obtain ⟨wS, hwS⟩ : ∃ wS, wS = w3 := ⟨_, rfl⟩
      rw [← hwS] at a3 g3 p3 ⊢
      have hzS : wS.heap.size = w3.heap.size := by rw [hwS]
      clear hwS
      have HP := Lib.hid p3
      have HGS := Lib.hid (g3.row.more (B' := wS.heap.size) (by omega))
      have HAS := Lib.hid (a3.row.more (B' := wS.heap.size) (by omega))
      have hzp := p3.size
      clear p3 g3 a3
      obtain ⟨b1, r1, hA1, hb1, hc1⟩ := HAS.out.open (by rw [List.length_map]; omega)
      have hmm0 : True := trivial
      have HC1 := Lib.hid hc1
      subst hA1
      clear hc1
      go_wp2_with fail
      go_loopw [7, 8, 9] (fun i _ _ wr => ∃ k : Nat, k ≤ 5 ∧ i = .int .i64 k ∧ Below wS.heap.size wS wr) (fun i _ _ _ => 5 - (intOf i).toNat)
      case atStart => exact ⟨0, by omega, rfl, Below.refl _ _⟩
      case round =>
        obtain ⟨k, hk5, rfl, hbr⟩ := hrel
        obtain ⟨wo, hwo⟩ : ∃ wo : World, wo = wr := ⟨_, rfl⟩
        rw [← hwo] at hbr ⊢
        clear hwo
        have HBO := Lib.hid hbr
        clear hbr
        by_cases hlt : k < 5
        · have hkd : decide ((k : Int) < 5) = true := decide_eq_true (by omega)
          go_wp2
          go_loopw [8, 9] (fun i _ wr => ∃ t : Nat, tn ≤ t ∧ t ≤ 67 ∧ i = .int .i64 t ∧ Below wS.heap.size wS wr) (fun i _ _ => (67 - intOf i).toNat)
          case atStart => exact ⟨tn, by omega, by omega, rfl, HBO.out⟩
          case round =>
            obtain ⟨t, htn, ht67, rfl, hbr⟩ := hrel
            obtain ⟨wi, hwi⟩ : ∃ wi : World, wi = wr := ⟨_, rfl⟩
            rw [← hwi] at hbr ⊢
            clear hwi
            have hzi := hbr.size
            have HBI := Lib.hid hbr
            clear hbr
            by_cases ht60 : t ≤ 60
            · have htrip : tripB rs (k : Int) (t : Int) = true := trip_mk HVV.out (by omega) (by omega) (by omega) (by omega)
              obtain ⟨y, hy⟩ : ∃ y, lateV rs (k : Int) (t : Int) = y := ⟨_, rfl⟩
              have hyt := (late_parts htrip).1
              have hy5 := hyt.len
              have hmain := earl_late HT.out (v := (k : Int)) (t := (t : Int)) (by omega) (by omega) (by omega) (by omega)
              rw [hy] at hyt hy5 hmain
              rw [HV.out] at hmain
              simp only [tA, Int.toNat_natCast] at hmain
              have HY := Lib.hid hy
              have HMN := Lib.hid hmain
              have HYT := Lib.hid hyt
              have HY5 := Lib.hid hy5
              clear hy hyt hy5 hmain htrip
              go_wp2_with fail
              refine (impL_any _ _ _ _ _ _ (HGS.out.below HBI.out |>.more hzi) HM.out).mono ?_
              rw [HY.out]
              rintro e wl ⟨Al, cl, rfl, hcl, ol, bl⟩
              have hzl := bl.size
              have HBL := Lib.hid (HBI.out.trans (bl.mono hzi))
              have hy5 := HY5.out
              obtain ⟨b2, r2, rfl, hb2, hc2⟩ := ol.open (by rw [List.length_map]; omega)
              have x2 := hc2 sn _ (by rw [List.getElem?_map, getDC_at (by omega)]; rfl)
              have x1 := (HBL.out.cell (p := ⟨b1, r1 + k, none⟩) hb1).trans (HC1.out k _ (by rw [List.getElem?_map, getDC_at (by omega)]; rfl))
              have g1 := times_get HQT.out (q := k)
              have g2 := times_get HYT.out (q := sn)
              have hmain := HMN.out
              obtain ⟨u, hu⟩ : ∃ u, q.getD k 0 = u := ⟨_, rfl⟩
              obtain ⟨v, hv⟩ : ∃ v, y.getD sn 0 = v := ⟨_, rfl⟩
              rw [hu] at x1 g1 hmain
              rw [hv] at x2 g2 hmain
              have k0 : (k : Int) < q.length := by omega
              have k1 : (sn : Int) < y.length := by omega
              have hk0 : (0 : Int) ≤ k := by omega
              have hsn0 : (0 : Int) ≤ sn := by omega
              clear hc2 hu hv ol bl hcl hy5
              by_cases a : 0 ≤ u ∧ u ≤ (t : Int)
              · have f0 : decide (0 ≤ u) = true := decide_eq_true a.1
                have f1 : decide (u ≤ (t : Int)) = true := decide_eq_true a.2
                have hvt := hmain.1 a
                have f2 : decide ((tn : Int) ≤ v) = true := decide_eq_true hvt
                clear hmain a
                go_wp2
                go_quiet (fail)
                go_simp
                go_wp2
                clear f0 f1 f2
                go_roundw
                case rel => first | exact ⟨t + 7, by omega, by omega, by go_num, below_drewN HBL.out _⟩ | ((repeat apply Exists.intro); exact ⟨⟨t + 7, by omega, by omega, by go_num, below_drewN HBL.out _⟩, rfl⟩)
                case measure => simp [intOf]; omega
              · have hvt : ¬ (tn : Int) ≤ v := fun h => a (hmain.2 h)
                have f2 : decide ((tn : Int) ≤ v) = false := decide_eq_false hvt
                clear hmain
                by_cases a0 : 0 ≤ u
                · have f0 : decide (0 ≤ u) = true := decide_eq_true a0
                  have f1 : decide (u ≤ (t : Int)) = false := decide_eq_false (fun h => a ⟨a0, h⟩)
                  clear a
                  go_wp2
                  go_quiet (fail)
                  go_simp
                  go_wp2
                  clear f0 f1 f2
                  go_roundw
                  case rel => first | exact ⟨t + 7, by omega, by omega, by go_num, below_drewN HBL.out _⟩ | ((repeat apply Exists.intro); exact ⟨⟨t + 7, by omega, by omega, by go_num, below_drewN HBL.out _⟩, rfl⟩)
                  case measure => simp [intOf]; omega
                · have f0 : decide (0 ≤ u) = false := decide_eq_false a0
                  clear a
                  go_wp2
                  go_quiet (fail)
                  go_simp
                  go_wp2
                  clear f0 f2
                  go_roundw
                  case rel => first | exact ⟨t + 7, by omega, by omega, by go_num, below_drewN HBL.out _⟩ | ((repeat apply Exists.intro); exact ⟨⟨t + 7, by omega, by omega, by go_num, below_drewN HBL.out _⟩, rfl⟩)
                  case measure => simp [intOf]; omega
            · go_wp2
              go_roundw
              case rel => exact ⟨k + 1, by omega, by go_num, HBI.out⟩
              case measure => simp [intOf]; omega
        · have hww := with_all HT.out
          rw [HV.out] at hww
          have HWW := Lib.hid hww
          clear hww
          have hzo := HBO.out.size
          go_wp2_with fail
          refine (impF_any _ _ _ _ _ _ _ (HGS.out.below HBO.out |>.more hzo) HM.out).mono ?_
          rw [HWW.out]
          rintro e wl ⟨Al, cl, rfl, hcl, ol, bl⟩
          have hzl := bl.size
          have HBL := Lib.hid (HBO.out.trans (bl.mono hzo))
          go_wp2_with fail
          refine (equalInts_any _ _ _ _ _ _ _ ol.row ((HAS.out.below HBL.out).more (by omega)) (by omega)).mono ?_
          rw [HE.out]
          rintro e wm ⟨rfl, nm, hwm⟩
          have HBM := Lib.hid (show Below wS.heap.size wS wm from by rw [hwm]; exact below_drewN HBL.out _)
          have hend := earl_start HT.out
          rw [HV.out] at hend
          simp only [tA, Int.toNat_natCast] at hend
          have xs := (HBM.out.cell (p := ⟨b1, r1 + sn, none⟩) hb1).trans (HC1.out sn _ (by rw [List.getElem?_map, getDC_at (by omega)]; rfl))
          rw [hend] at xs
          have hsI : (sn : Int) < q.length := by omega
          have hs00 : (0 : Int) ≤ sn := by omega
          have htt : ((tn : Int) == (tn : Int)) = true := by simp
          clear hend hwm ol bl hcl
          go_wp2
          go_ret
          exact ⟨rfl, HB0.out.trans ((HP.out.trans (HBM.out.mono hzp)).mono z00)⟩
  · go_enter Try.func9, Try.ntmps9
    go_wp2
    go_ret
    exact ⟨rfl, Below.refl _ _⟩
end Go.Proofs.Ytmhoephclceihaa
