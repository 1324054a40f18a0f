/- The walk of the law FnLatestTo. No condition. -/
import Derived.Test.YtmhoephclceihaaKn
namespace Go.Proofs.Ytmhoephclceihaa
open Go.RowKit

set_option maxRecDepth 100000 in
set_option maxHeartbeats 8000000 in
theorem latestTo_law (A : Option Addr) (c : Nat) (zs : List Int) (v0 : World) (hr : Own v0 0 v0.heap.size A (zs.map (Value.int .u8))) (hx : zs.length ≤ c ∧ c ≤ maxLen ∧ ∀ z ∈ zs, (Lit.int .u8 z).wf = true) :
    Calls Try.prog 11 #[.slice A zs.length c] v0 fun e w' => e = .returned (.bool true) ∧ Below v0.heap.size v0 w' := by
  have hl : zs.length ≤ 9223372036854775807 := by have := hx.1; have := hx.2.1; unfold maxLen at this; omega
  have HX := Lib.hid hx
  clear hx
  by_cases h20 : zs.length ≤ 1048576
  · go_enter Try.func11, Try.ntmps11
    go_wp2_with fail
    refine (drawLT_any _ _ _ _ hr HX.out).mono ?_
    rintro e w ⟨B, d, rs, s, τ, rfl, ⟨⟨hs0, hs1⟩, ⟨hτ0, hτ1⟩⟩, h10, hdc, hln, hrg, hb0⟩
    have HM := Lib.hid (show ∀ r ∈ rs, r.length ≤ 1000000000 from fun r h => by have := hln r h; omega)
    have HB0 := Lib.hid hb0
    have z00 := hb0.size
    clear hln hb0
    obtain ⟨q, hq⟩ : ∃ q, lateV rs s τ = q := ⟨_, rfl⟩
    have hql : q.length ≤ 5 := by rw [← hq]; exact lateV_len rs s τ
    have HV := Lib.hid hq
    have HE := Lib.hid (eqISelf q)
    clear hq
    obtain ⟨y, hy⟩ : ∃ y, lateV rs s (τ + 1) = y := ⟨_, rfl⟩
    have hyl : y.length ≤ 5 := by rw [← hy]; exact lateV_len rs s (τ + 1)
    have HY := Lib.hid hy
    clear hy
    have g0 := hrg
    clear hrg
    have p0 := Below.refl w.heap.size w
    have z0 : w.heap.size ≤ w.heap.size := Nat.le_refl _
    go_wp2_with fail
    refine (impL_any _ _ _ _ _ _ (g0.row.more (by omega)) HM.out).mono ?_
    rw [HV.out]
    rintro e w1 ⟨A1, c1, rfl, hc1, o1, e1⟩
    have z1 := e1.size
    have g1 := g0.keep (by omega) e1
    clear g0
    have a1 := o1
    clear o1
    have p1 := p0.trans (e1.mono (by omega))
    clear p0 e1
    go_wp2_with fail
    refine (specLate_any _ _ _ _ _ _ (g1.row.more (by omega)) (by omega) HM.out).mono ?_
    rw [HV.out]
    rintro e w2 ⟨A2, c2, rfl, hc2, o2, e2⟩
    have z2 := e2.size
    have g2 := g1.keep (by omega) e2
    clear g1
    have a2 := a1.keep (by omega) e2
    clear a1
    have s2 := o2
    clear o2
    have p2 := p1.trans (e2.mono (by omega))
    clear p1 e2
    go_wp2_with fail
    refine (equalInts_any _ _ _ _ _ _ _ (a2.row.more (by omega)) (s2.row.more (by omega)) (by omega)).mono ?_
    rw [HE.out]
    rintro e w3 ⟨rfl, n3, hw3⟩
    have e3 : Below w2.heap.size w2 w3 := by rw [hw3]; exact drewBelow _ _
    clear hw3
    have z3 := e3.size
    have g3 := g2.keep (by omega) e3
    clear g2
    have a3 := a2.keep (by omega) e3
    clear a2
    have s3 := s2.keep (by omega) e3
    clear s2
    have p3 := p2.trans (e3.mono (by omega))
    clear p2 e3
    clear s3
    by_cases hq0 : q.length = 0
    · have hd0 : ((q.length : Int) == 0) = true := beq_iff_eq.2 (by omega)
      clear hq0
      go_wp2_with fail
      refine (specLate_any _ _ _ _ _ _ (g3.row.more (by omega)) (by omega) HM.out).mono ?_
      rw [HV.out]
      rintro e w4 ⟨A4, c4, rfl, hc4, o4, e4⟩
      have z4 := e4.size
      have g4 := g3.keep (by omega) e4
      clear g3
      have a4 := a3.keep (by omega) e4
      clear a3
      have s4 := o4
      clear o4
      have p4 := p3.trans (e4.mono (by omega))
      clear p3 e4
      clear g4
      go_wp2_with fail
      refine (equalInts_any _ _ _ _ _ _ _ (a4.row.more (by omega)) (s4.row.more (by omega)) (by omega)).mono ?_
      rw [HE.out]
      rintro e w5 ⟨rfl, n5, hw5⟩
      have e5 : Below w4.heap.size w4 w5 := by rw [hw5]; exact drewBelow _ _
      clear hw5
      have z5 := e5.size
      have a5 := a4.keep (by omega) e5
      clear a4
      have s5 := s4.keep (by omega) e5
      clear s4
      have p5 := p4.trans (e5.mono (by omega))
      clear p4 e5
      go_wp2_with fail
      go_ret
      exact ⟨rfl, HB0.out.trans (p5.mono z00)⟩
    · have ht : tripB rs s τ = true := late_nil (by rw [HV.out]; exact hq0)
      obtain ⟨hsb0, hsb1, htb0, htb1, hvv⟩ := trip_bd ht
      have hqt := (late_parts ht).1
      have hq5 := hqt.len
      rw [HV.out] at hq5 hqt
      have hdq : ((q.length : Int) == 0) = false := beq_eq_false_iff_ne.2 (by omega)
      have HT := Lib.hid ht
      have HQT := Lib.hid hqt
      clear ht hqt hq0 hvv
      go_wp2_with fail
      refine (impL_any _ _ _ _ _ _ (g3.row.more (by omega)) HM.out).mono ?_
      rw [HY.out]
      rintro e w4 ⟨A4, c4, rfl, hc4, o4, e4⟩
      have z4 := e4.size
      have g4 := g3.keep (by omega) e4
      clear g3
      have a4 := a3.keep (by omega) e4
      clear a3
      have f4 := o4
      clear o4
      have p4 := p3.trans (e4.mono (by omega))
      clear p3 e4
      clear g4
      obtain ⟨wS, hwS⟩ : ∃ wS, wS = w4 := ⟨_, rfl⟩
      rw [← hwS] at a4 f4 p4 ⊢
      clear hwS
      have HP := Lib.hid p4
      clear p4
      obtain ⟨sn, rfl⟩ := Int.eq_ofNat_of_zero_le hsb0
      have hend := late_end HT.out
      rw [HV.out] at hend
      simp only [tA, Int.toNat_natCast] at hend
      obtain ⟨b1, r1, rfl, hb1, hc1⟩ := a4.open (by rw [List.length_map]; omega)
      have xs := hc1 sn _ (by rw [List.getElem?_map, getDC_at (by omega)]; rfl)
      rw [hend] at xs
      have hsI : (sn : Int) < q.length := by omega
      have hs00 : (0 : Int) ≤ sn := by omega
      have HXS := Lib.hid xs
      have HC1 := Lib.hid hc1
      clear hend hc1 xs hdq
      go_wp2_with fail
      go_loopw [8] (fun i wr => ∃ k : Nat, k ≤ 5 ∧ i = .int .i64 k ∧ ∃ n, wr = wS.drewN n) (fun i _ => 5 - (intOf i).toNat)
      case atStart => exact ⟨0, by omega, rfl, 0, rfl⟩
      case round =>
        obtain ⟨k, hk5, rfl, n, rfl⟩ := hrel
        by_cases hlt : k < q.length
        · have hle := late_le HT.out (v := (k : Int)) (by omega) (by omega)
          rw [HV.out] at hle
          simp only [tA, Int.toNat_natCast] at hle
          have x1 := HC1.out k _ (by rw [List.getElem?_map, getDC_at (by omega)]; rfl)
          have g1 := times_get HQT.out (q := k)
          obtain ⟨u, hu⟩ : ∃ u, q.getD k 0 = u := ⟨_, rfl⟩
          rw [hu] at hle x1 g1
          have HU := Lib.hid hu
          have hkq : (k : Int) < q.length := by omega
          have hk0 : (0 : Int) ≤ k := by omega
          have f2 : decide (τ < u) = false := decide_eq_false (by omega)
          clear hu
          by_cases hy0 : y.length = 0
          · have hdy : decide (0 < y.length) = false := decide_eq_false (by omega)
            go_wp2
            go_quiet (fail)
            go_wp2
            clear f2 hdy
            go_roundw
            case rel => exact ⟨k + 1, by omega, by go_num, _, rfl⟩
            case measure => simp [intOf]; omega
          · have hty : tripB rs (sn : Int) (τ + 1) = true := late_nil (by rw [HY.out]; exact hy0)
            have hyt := (late_parts hty).1
            have hy5 := hyt.len
            have hmore := late_more HT.out hty (v := (k : Int)) (by omega) (by omega)
            rw [HY.out] at hy5 hyt
            rw [HV.out, HY.out] at hmore
            simp only [tA, Int.toNat_natCast] at hmore
            obtain ⟨b2, r2, rfl, hb2, hc2⟩ := f4.open (by rw [List.length_map]; omega)
            have x2 := hc2 k _ (by rw [List.getElem?_map, getDC_at (by omega)]; rfl)
            have g2 := times_get hyt (q := k)
            obtain ⟨v, hv⟩ : ∃ v, y.getD k 0 = v := ⟨_, rfl⟩
            rw [hv] at hmore x2 g2
            rw [HU.out] at hmore
            have hkyI : (k : Int) < y.length := by omega
            have hdy : decide (0 < y.length) = true := decide_eq_true (by omega)
            have f1 : decide (v < u) = false := decide_eq_false (by omega)
            clear hc2 hv hyt hty hy5 hy0
            go_wp2
            go_quiet (fail)
            go_wp2
            clear f1 f2 hdy
            go_roundw
            case rel => exact ⟨k + 1, by omega, by go_num, _, rfl⟩
            case measure => simp [intOf]; omega
        · have xs := HXS.out
          have htt : (τ == τ) = true := by simp
          go_wp2
          go_ret
          exact ⟨rfl, HB0.out.trans ((below_drewN HP.out _).mono z00)⟩
  · go_enter Try.func11, Try.ntmps11
    go_wp2
    go_ret
    exact ⟨rfl, Below.refl _ _⟩
end Go.Proofs.Ytmhoephclceihaa
