/- The walk of the law FnWaitingIsFree. No condition. -/
import Derived.Test.YtmhoephclceihaaKn
namespace Go.Proofs.Ytmhoephclceihaa
open Go.RowKit

set_option maxRecDepth 100000 in
set_option maxHeartbeats 8000000 in
theorem waitingIsFree_law (A : Option Addr) (c : Nat) (zs : List Int) (v0 : World) (hr : Own v0 0 v0.heap.size A (zs.map (Value.int .u8))) (hx : zs.length ≤ c ∧ c ≤ maxLen ∧ ∀ z ∈ zs, (Lit.int .u8 z).wf = true) :
    Calls Try.prog 14 #[.slice A zs.length c] v0 fun e w' => e = .returned (.bool true) ∧ Below v0.heap.size v0 w' := by
  have hl : zs.length ≤ 9223372036854775807 := by have := hx.1; have := hx.2.1; unfold maxLen at this; omega
  have HX := Lib.hid hx
  clear hx
  by_cases h20 : zs.length ≤ 1048576
  · go_enter Try.func14, Try.ntmps14
    go_wp2_with fail
    refine (drawEF_any _ _ _ _ hr HX.out).mono ?_
    rintro e w ⟨B, d, rs, s, τ, rfl, ⟨⟨hs0, hs1⟩, ⟨hτ0, hτ1⟩⟩, h10, hdc, hln, hrg, hb0⟩
    have HM := Lib.hid (show ∀ r ∈ rs, r.length ≤ 1000000000 from fun r h => by have := hln r h; omega)
    have HB0 := Lib.hid hb0
    have z00 := hb0.size
    clear hln hb0
    obtain ⟨q, hq⟩ : ∃ q, earlV rs s τ = q := ⟨_, rfl⟩
    have hql : q.length ≤ 5 := by rw [← hq]; exact earlV_len rs s τ
    have HV := Lib.hid hq
    have HE := Lib.hid (eqISelf q)
    clear hq
    obtain ⟨y, hy⟩ : ∃ y, earlV rs s (τ + 1) = y := ⟨_, rfl⟩
    have hyl : y.length ≤ 5 := by rw [← hy]; exact earlV_len rs s (τ + 1)
    have HY := Lib.hid hy
    clear hy
    have g0 := hrg
    clear hrg
    have p0 := Below.refl w.heap.size w
    have z0 : w.heap.size ≤ w.heap.size := Nat.le_refl _
    go_wp2_with fail
    refine (impE_any _ _ _ _ _ _ (g0.row.more (by omega)) HM.out).mono ?_
    rw [HV.out]
    rintro e w1 ⟨A1, c1, rfl, hc1, o1, e1⟩
    have z1 := e1.size
    have g1 := g0.keep (by omega) e1
    clear g0
    have a1 := o1
    clear o1
    have p1 := p0.trans (e1.mono (by omega))
    clear p0 e1
    go_wp2_with fail
    refine (specEarl_any _ _ _ _ _ _ (g1.row.more (by omega)) (by omega) HM.out).mono ?_
    rw [HV.out]
    rintro e w2 ⟨A2, c2, rfl, hc2, o2, e2⟩
    have z2 := e2.size
    have g2 := g1.keep (by omega) e2
    clear g1
    have a2 := a1.keep (by omega) e2
    clear a1
    have s2 := o2
    clear o2
    have p2 := p1.trans (e2.mono (by omega))
    clear p1 e2
    go_wp2_with fail
    refine (equalInts_any _ _ _ _ _ _ _ (a2.row.more (by omega)) (s2.row.more (by omega)) (by omega)).mono ?_
    rw [HE.out]
    rintro e w3 ⟨rfl, n3, hw3⟩
    have e3 : Below w2.heap.size w2 w3 := by rw [hw3]; exact drewBelow _ _
    clear hw3
    have z3 := e3.size
    have g3 := g2.keep (by omega) e3
    clear g2
    have a3 := a2.keep (by omega) e3
    clear a2
    have s3 := s2.keep (by omega) e3
    clear s2
    have p3 := p2.trans (e3.mono (by omega))
    clear p2 e3
    clear a3 s3
    go_wp2_with fail
    refine (impE_any _ _ _ _ _ _ (g3.row.more (by omega)) HM.out).mono ?_
    rw [HV.out]
    rintro e w4 ⟨A4, c4, rfl, hc4, o4, e4⟩
    have z4 := e4.size
    have g4 := g3.keep (by omega) e4
    clear g3
    have b4 := o4
    clear o4
    have p4 := p3.trans (e4.mono (by omega))
    clear p3 e4
    go_wp2_with fail
    refine (impE_any _ _ _ _ _ _ (g4.row.more (by omega)) HM.out).mono ?_
    rw [HY.out]
    rintro e w5 ⟨A5, c5, rfl, hc5, o5, e5⟩
    have z5 := e5.size
    have g5 := g4.keep (by omega) e5
    clear g4
    have b5 := b4.keep (by omega) e5
    clear b4
    have f5 := o5
    clear o5
    have p5 := p4.trans (e5.mono (by omega))
    clear p4 e5
    clear g5
    obtain ⟨wS, hwS⟩ : ∃ wS, wS = w5 := ⟨_, rfl⟩
    rw [← hwS] at b5 f5 p5 ⊢
    clear hwS
    have HP := Lib.hid p5
    clear p5
    go_wp2_with fail
    go_loopw [8] (fun i wr => ∃ k : Nat, k ≤ 5 ∧ i = .int .i64 k ∧ k ≤ y.length ∧ ∃ n, wr = wS.drewN n) (fun i _ => 5 - (intOf i).toNat)
    case atStart => exact ⟨0, by omega, rfl, by omega, 0, rfl⟩
    case round =>
      obtain ⟨k, hk5, rfl, hky, n, rfl⟩ := hrel
      by_cases hlt : k < y.length
      · by_cases hq0 : q.length = 0
        · have hd0 : decide (0 < q.length) = false := decide_eq_false (by omega)
          go_wp2
          go_ret
          exact ⟨rfl, HB0.out.trans ((below_drewN HP.out _).mono z00)⟩
        · have ht : tripB rs s τ = true := earl_nil (by rw [HV.out]; exact hq0)
          have hty : tripB rs s (τ + 1) = true := earl_nil (by rw [HY.out]; omega)
          have hqt := (earl_parts ht).1
          have hyt := (earl_parts hty).1
          have hq5 := hqt.len
          have hy5 := hyt.len
          rw [HV.out] at hq5 hqt
          rw [HY.out] at hy5 hyt
          have hmain := earl_wait ht hty (v := (k : Int)) (by omega) (by omega)
          rw [HV.out, HY.out] at hmain
          simp only [tA, Int.toNat_natCast] at hmain
          obtain ⟨b1, r1, rfl, hb1, hc1⟩ := b5.open (by rw [List.length_map]; omega)
          obtain ⟨b2, r2, rfl, hb2, hc2⟩ := f5.open (by rw [List.length_map]; omega)
          have x1 := hc1 k _ (by rw [List.getElem?_map, getDC_at (by omega)]; rfl)
          have x2 := hc2 k _ (by rw [List.getElem?_map, getDC_at (by omega)]; rfl)
          have g1 := times_get hqt (q := k)
          have g2 := times_get hyt (q := k)
          obtain ⟨u, hu⟩ : ∃ u, q.getD k 0 = u := ⟨_, rfl⟩
          obtain ⟨v, hv⟩ : ∃ v, y.getD k 0 = v := ⟨_, rfl⟩
          rw [hu] at hmain x1 g1
          rw [hv] at hmain x2 g2
          have hd0 : decide (0 < q.length) = true := decide_eq_true (by omega)
          have hkq : (k : Int) < q.length := by omega
          have hkyI : (k : Int) < y.length := by omega
          have hkq2 : k < q.length := by omega
          have hk0 : (0 : Int) ≤ k := by omega
          clear hc1 hc2 hu hv hq5 hy5 hqt hyt ht hty
          by_cases a0 : 0 ≤ v
          · have f0 : decide (0 ≤ v) = true := decide_eq_true a0
            have f1 : decide (u < 0) = false := decide_eq_false (by have := (hmain a0).1; omega)
            have f2 : decide (v < u) = false := decide_eq_false (by have := (hmain a0).2; omega)
            have hu0 : 0 ≤ u := (hmain a0).1
            have huv : u ≤ v := (hmain a0).2
            clear hmain
            go_wp2
            go_quiet (fail)
            go_wp2
            clear f0 f1 f2 hd0
            go_roundw
            case rel => exact ⟨k + 1, by omega, by go_num, by omega, _, rfl⟩
            case measure => simp [intOf]; omega
          · have f0 : decide (0 ≤ v) = false := decide_eq_false a0
            clear hmain
            go_wp2
            go_quiet (fail)
            go_wp2
            clear f0 hd0
            go_roundw
            case rel => exact ⟨k + 1, by omega, by go_num, by omega, _, rfl⟩
            case measure => simp [intOf]; omega
      · have hky2 : k = y.length := by omega
        go_wp2
        go_ret
        exact ⟨rfl, HB0.out.trans ((below_drewN HP.out _).mono z00)⟩
  · go_enter Try.func14, Try.ntmps14
    go_wp2
    go_ret
    exact ⟨rfl, Below.refl _ _⟩
end Go.Proofs.Ytmhoephclceihaa
