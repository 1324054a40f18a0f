/- The walk of the law FnCoachesAreOptional. No condition. -/
import Derived.Test.YtmhoephclceihaaKn
namespace Go.Proofs.Ytmhoephclceihaa
open Go.RowKit

set_option maxRecDepth 100000 in
set_option maxHeartbeats 8000000 in
theorem coachesAreOptional_law (A : Option Addr) (c : Nat) (zs : List Int) (v0 : World) (hr : Own v0 0 v0.heap.size A (zs.map (Value.int .u8))) (hx : zs.length ≤ c ∧ c ≤ maxLen ∧ ∀ z ∈ zs, (Lit.int .u8 z).wf = true) :
    Calls Try.prog 13 #[.slice A zs.length c] v0 fun e w' => e = .returned (.bool true) ∧ Below v0.heap.size v0 w' := by
  have hl : zs.length ≤ 9223372036854775807 := by have := hx.1; have := hx.2.1; unfold maxLen at this; omega
  have HX := Lib.hid hx
  clear hx
  by_cases h20 : zs.length ≤ 1048576
  · go_enter Try.func13, Try.ntmps13
    go_wp2_with fail
    refine (drawEF_any _ _ _ _ hr HX.out).mono ?_
    rintro e w ⟨B, d, rs, s, τ, rfl, ⟨⟨hs0, hs1⟩, ⟨hτ0, hτ1⟩⟩, h10, hdc, hln, hrg, hb0⟩
    have HM := Lib.hid (show ∀ r ∈ rs, r.length ≤ 1000000000 from fun r h => by have := hln r h; omega)
    have HB0 := Lib.hid hb0
    have z00 := hb0.size
    clear hln hb0
    obtain ⟨q, hq⟩ : ∃ q, earlV rs s τ = q := ⟨_, rfl⟩
    have hql : q.length ≤ 5 := by rw [← hq]; exact earlV_len rs s τ
    have HV := Lib.hid hq
    have HE := Lib.hid (eqISelf q)
    clear hq
    have g0 := hrg
    clear hrg
    have p0 := Below.refl w.heap.size w
    have z0 : w.heap.size ≤ w.heap.size := Nat.le_refl _
    go_wp2_with fail
    refine (impE_any _ _ _ _ _ _ (g0.row.more (by omega)) HM.out).mono ?_
    rw [HV.out]
    rintro e w1 ⟨A1, c1, rfl, hc1, o1, e1⟩
    have z1 := e1.size
    have g1 := g0.keep (by omega) e1
    clear g0
    have a1 := o1
    clear o1
    have p1 := p0.trans (e1.mono (by omega))
    clear p0 e1
    go_wp2_with fail
    refine (specEarl_any _ _ _ _ _ _ (g1.row.more (by omega)) (by omega) HM.out).mono ?_
    rw [HV.out]
    rintro e w2 ⟨A2, c2, rfl, hc2, o2, e2⟩
    have z2 := e2.size
    have g2 := g1.keep (by omega) e2
    clear g1
    have a2 := a1.keep (by omega) e2
    clear a1
    have s2 := o2
    clear o2
    have p2 := p1.trans (e2.mono (by omega))
    clear p1 e2
    go_wp2_with fail
    refine (equalInts_any _ _ _ _ _ _ _ (a2.row.more (by omega)) (s2.row.more (by omega)) (by omega)).mono ?_
    rw [HE.out]
    rintro e w3 ⟨rfl, n3, hw3⟩
    have e3 : Below w2.heap.size w2 w3 := by rw [hw3]; exact drewBelow _ _
    clear hw3
    have z3 := e3.size
    have g3 := g2.keep (by omega) e3
    clear g2
    have a3 := a2.keep (by omega) e3
    clear a2
    have s3 := s2.keep (by omega) e3
    clear s2
    have p3 := p2.trans (e3.mono (by omega))
    clear p2 e3
    clear a3 s3
    go_wp2_with fail
    refine (impE_any _ _ _ _ _ _ (g3.row.more (by omega)) HM.out).mono ?_
    rw [HV.out]
    rintro e w4 ⟨A4, c4, rfl, hc4, o4, e4⟩
    have z4 := e4.size
    have g4 := g3.keep (by omega) e4
    clear g3
    have b4 := o4
    clear o4
    have p4 := p3.trans (e4.mono (by omega))
    clear p3 e4
    by_cases hq0 : q.length = 0
    · have hd0 : ((q.length : Int) == 0) = true := beq_iff_eq.2 (by omega)
      go_wp2_with fail
      go_ret
      exact ⟨rfl, HB0.out.trans (p4.mono z00)⟩
    have hd0 : ((q.length : Int) == 0) = false := beq_eq_false_iff_ne.2 (by omega)
    by_cases hr0 : rs.length = 0
    · have hd1 : ((rs.length : Int) == 0) = true := beq_iff_eq.2 (by omega)
      go_wp2_with fail
      go_ret
      exact ⟨rfl, HB0.out.trans (p4.mono z00)⟩
    have hd1 : ((rs.length : Int) == 0) = false := beq_eq_false_iff_ne.2 (by omega)
    have ht : tripB rs s τ = true := earl_nil (by rw [HV.out]; exact hq0)
    obtain ⟨hsb0, hsb1, htb0, htb1, hvv⟩ := trip_bd ht
    obtain ⟨m, hm⟩ : ∃ m, m = rs.length - 1 := ⟨_, rfl⟩
    have hpos : 0 < rs.length := by omega
    obtain ⟨bg, og, Rg, cRg, hBg, _, _, _, _⟩ := g4.open hpos
    subst hBg
    have hsub : (rs.length : Int) - 1 = (m : Int) := by omega
    have hw : IntKind.i64.wrap ((rs.length : Int) - 1) = (m : Int) := by rw [hsub]; exact IntWalk.i64_in _ (by omega)
    have hsl := slice_uptoR bg og rs.length d m (by omega)
    have hml : (rs.take m).length = m := by rw [List.length_take]; omega
    have hsubs : ∀ r ∈ rs.take m, r ∈ rs := fun r hr => List.mem_of_mem_take hr
    have htm : tripB (rs.take m) s τ = true := trip_mk (by simp only [coachesB, Bool.and_eq_true, decide_eq_true_eq, List.all_eq_true, List.length_take] at hvv ⊢; exact ⟨by omega, fun x hx => hvv.2 x (List.mem_of_mem_take hx)⟩) hsb0 hsb1 htb0 htb1
    obtain ⟨y, hy⟩ : ∃ y, earlV (rs.take m) s τ = y := ⟨_, rfl⟩
    obtain ⟨l1, hl1⟩ : ∃ l1, lateV rs s τ = l1 := ⟨_, rfl⟩
    obtain ⟨l2, hl2⟩ : ∃ l2, lateV (rs.take m) s τ = l2 := ⟨_, rfl⟩
    have tq := (earl_parts ht).1
    have ty := (earl_parts htm).1
    have t1 := (late_parts ht).1
    have t2 := (late_parts htm).1
    rw [HV.out] at tq
    rw [hy] at ty
    rw [hl1] at t1
    rw [hl2] at t2
    have HE2 := Lib.hid (fun v : Nat => fun hv : v ≤ 4 => And.intro (fun hp => earl_more hsubs ht htm (v := (v : Int)) (by omega) (by omega) hp) (late_fewer hsubs ht htm (v := (v : Int)) (by omega) (by omega)))
    rw [HV.out, hy, hl1, hl2] at HE2
    have HM2 := Lib.hid (show ∀ r ∈ rs.take m, r.length ≤ 1000000000 from fun r h => HM.out r (List.mem_of_mem_take h))
    have HY := Lib.hid hy
    have HL1 := Lib.hid hl1
    have HL2 := Lib.hid hl2
    have HML := Lib.hid hml
    have lq := tq.len
    have ly := ty.len
    have ll1 := t1.len
    have ll2 := t2.len
    have HTQ := Lib.hid (And.intro tq (And.intro ty (And.intro t1 t2)))
    clear ht htm hsubs hvv hy hl1 hl2 hml hm tq ty t1 t2
    have hi5 := impE_any (some ⟨bg, og, none⟩) d (rs.take m) s τ w4 (g4.row.more (by omega) |>.take m) HM2.out
    rw [HML.out, HY.out] at hi5
    have HI5 := Lib.hid hi5
    clear hi5
    go_wp2_with fail
    refine HI5.out.mono ?_
    rintro e w5 ⟨A5, c5, rfl, hc5, o5, e5⟩
    have z5 := e5.size
    have g5 := g4.keep (by omega) e5
    clear g4
    have b5 := b4.keep (by omega) e5
    clear b4
    have f5 := o5
    clear o5
    have p5 := p4.trans (e5.mono (by omega))
    clear p4 e5
    go_wp2_with fail
    refine (impL_any _ _ _ _ _ _ (g5.row.more (by omega)) HM.out).mono ?_
    rw [HL1.out]
    rintro e w6 ⟨A6, c6, rfl, hc6, o6, e6⟩
    have z6 := e6.size
    have g6 := g5.keep (by omega) e6
    clear g5
    have b6 := b5.keep (by omega) e6
    clear b5
    have f6 := f5.keep (by omega) e6
    clear f5
    have h6 := o6
    clear o6
    have p6 := p5.trans (e6.mono (by omega))
    clear p5 e6
    have hi7 := impL_any (some ⟨bg, og, none⟩) d (rs.take m) s τ w6 (g6.row.more (by omega) |>.take m) HM2.out
    rw [HML.out, HL2.out] at hi7
    have HI7 := Lib.hid hi7
    clear hi7
    go_wp2_with fail
    refine HI7.out.mono ?_
    rintro e w7 ⟨A7, c7, rfl, hc7, o7, e7⟩
    have z7 := e7.size
    have g7 := g6.keep (by omega) e7
    clear g6
    have b7 := b6.keep (by omega) e7
    clear b6
    have f7 := f6.keep (by omega) e7
    clear f6
    have h7 := h6.keep (by omega) e7
    clear h6
    have j7 := o7
    clear o7
    have p7 := p6.trans (e7.mono (by omega))
    clear p6 e7
    clear g7
    clear hsub hw hsl
    obtain ⟨wS, hwS⟩ : ∃ wS, wS = w7 := ⟨_, rfl⟩
    rw [← hwS] at b7 f7 h7 j7 p7 ⊢
    clear hwS
    have HP := Lib.hid p7
    clear p7
    obtain ⟨b0', r0', rfl, hb0', hc0'⟩ := b7.open (by rw [List.length_map]; omega)
    obtain ⟨b1', r1', rfl, hb1', hc1'⟩ := f7.open (by rw [List.length_map]; omega)
    obtain ⟨b2', r2', rfl, hb2', hc2'⟩ := h7.open (by rw [List.length_map]; omega)
    obtain ⟨b3', r3', rfl, hb3', hc3'⟩ := j7.open (by rw [List.length_map]; omega)
    have HC := Lib.hid (And.intro hc0' (And.intro hc1' (And.intro hc2' hc3')))
    clear hc0' hc1' hc2' hc3'
    go_wp2_with fail
    go_loopw [10] (fun i wr => ∃ k : Nat, k ≤ 5 ∧ i = .int .i64 k ∧ ∃ n, wr = wS.drewN n) (fun i _ => 5 - (intOf i).toNat)
    case atStart => exact ⟨0, by omega, rfl, 0, rfl⟩
    case round =>
      obtain ⟨k, hk5, rfl, n, rfl⟩ := hrel
      by_cases hlt : k < q.length
      · obtain ⟨h1, h2⟩ := HE2.out k (by omega)
        simp only [tA, Int.toNat_natCast] at h1 h2
        have x0 := HC.out.1 k _ (by rw [List.getElem?_map, getDC_at (by omega)]; rfl)
        have g0 := times_get HTQ.out.1 (q := k)
        obtain ⟨u0, hu0⟩ : ∃ u0, q.getD k 0 = u0 := ⟨_, rfl⟩
        rw [hu0] at x0 g0 h1
        have x1 := HC.out.2.1 k _ (by rw [List.getElem?_map, getDC_at (by omega)]; rfl)
        have g1 := times_get HTQ.out.2.1 (q := k)
        obtain ⟨u1, hu1⟩ : ∃ u1, y.getD k 0 = u1 := ⟨_, rfl⟩
        rw [hu1] at x1 g1 h1
        have x2 := HC.out.2.2.1 k _ (by rw [List.getElem?_map, getDC_at (by omega)]; rfl)
        have g2 := times_get HTQ.out.2.2.1 (q := k)
        obtain ⟨u2, hu2⟩ : ∃ u2, l1.getD k 0 = u2 := ⟨_, rfl⟩
        rw [hu2] at x2 g2 h2
        have x3 := HC.out.2.2.2 k _ (by rw [List.getElem?_map, getDC_at (by omega)]; rfl)
        have g3 := times_get HTQ.out.2.2.2 (q := k)
        obtain ⟨u3, hu3⟩ : ∃ u3, l2.getD k 0 = u3 := ⟨_, rfl⟩
        rw [hu3] at x3 g3 h2
        have k0 : (k : Int) < q.length := by omega
        have k1 : (k : Int) < y.length := by omega
        have k2 : (k : Int) < l1.length := by omega
        have k3 : (k : Int) < l2.length := by omega
        have hk0 : (0 : Int) ≤ k := by omega
        have f3 : decide (u2 < u3) = false := decide_eq_false (by omega)
        clear hu0 hu1 hu2 hu3
        by_cases a0 : 0 ≤ u1
        · have f0 : decide (0 ≤ u1) = true := decide_eq_true a0
          have hq1 := (h1 a0).1
          have hq2 := (h1 a0).2
          have f1 : decide (u0 < 0) = false := decide_eq_false (by omega)
          have f2 : decide (u1 < u0) = false := decide_eq_false (by omega)
          clear h1
          go_wp2
          go_quiet (fail)
          go_wp2
          clear f0 f1 f2 f3
          go_roundw
          case rel => exact ⟨k + 1, by omega, by go_num, _, rfl⟩
          case measure => simp [intOf]; omega
        · have f0 : decide (0 ≤ u1) = false := decide_eq_false a0
          clear h1
          go_wp2
          go_quiet (fail)
          go_wp2
          clear f0 f3
          go_roundw
          case rel => exact ⟨k + 1, by omega, by go_num, _, rfl⟩
          case measure => simp [intOf]; omega
      · go_wp2
        go_ret
        exact ⟨rfl, HB0.out.trans ((below_drewN HP.out _).mono z00)⟩
  · go_enter Try.func13, Try.ntmps13
    go_wp2
    go_ret
    exact ⟨rfl, Below.refl _ _⟩
end Go.Proofs.Ytmhoephclceihaa
