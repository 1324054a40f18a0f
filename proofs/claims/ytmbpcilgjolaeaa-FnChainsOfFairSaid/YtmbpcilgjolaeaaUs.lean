/- The walk of the law FnChainOf. No condition. -/
import Derived.Test.YtmbpcilgjolaeaaUq
import Derived.Test.YtmbpcilgjolaeaaUi
import Derived.Test.YtmbpcilgjolaeaaDi
namespace Go.Proofs.Ytmbpcilgjolaeaa
open Go.RowKit
theorem ints_nodup {l : List Nat} (h : l.Nodup) : (ints l).Nodup := by
  unfold ints
  rw [List.nodup_iff_pairwise_ne] at h ⊢
  rw [List.pairwise_map]
  exact h.imp fun hne e => hne (by omega)
theorem ints_at0 {l : List Nat} {j : Nat} (h : j < l.length) : ((ints l).map (Value.int .i64))[j]? = some (.int .i64 (l[j] : Int)) := by
  unfold ints; rw [List.getElem?_map, List.getElem?_map, List.getElem?_eq_getElem h]; rfl
theorem ends_last (x : Nat) (C : List Nat) : ends x C = (x :: C)[C.length]'(by simp) := by
  have h := ends_take x C (Nat.le_refl C.length)
  rw [List.take_length] at h
  exact h


set_option maxRecDepth 100000 in
set_option maxHeartbeats 8000000 in
theorem chainOf_law (A : Option Addr) (c : Nat) (zs : List Int) (v0 : World) (hr : Own v0 0 v0.heap.size A (zs.map (Value.int .u8))) (hx : zs.length ≤ c ∧ c ≤ maxLen ∧ ∀ z ∈ zs, (Lit.int .u8 z).wf = true) :
    Calls Try.prog 11 #[.slice A zs.length c] v0 fun e w' => e = .returned (.bool true) ∧ Below v0.heap.size v0 w' := by
  have hl : zs.length ≤ 9223372036854775807 := by have := hx.1; have := hx.2.1; unfold maxLen at this; omega
  have HX := Lib.hid hx
  clear hx
  by_cases h20 : zs.length ≤ 1048576
  · go_enter Try.func11, Try.ntmps11
    go_wp2_with fail
    refine (drawChainOf_any _ _ _ _ hr HX.out).mono ?_
    rintro e w ⟨B, d, rs, i, k, rfl, ⟨⟨hi0, hi5⟩, ⟨hk0, hk5⟩⟩, ⟨h1, h6⟩, hdc, hsh, hrg, hb0⟩
    have HM := Lib.hid hsh
    have HB0 := Lib.hid hb0
    have z00 := hb0.size
    clear hsh hb0
    obtain ⟨q, hq⟩ := exists_ch rs i k
    cases hv : chainB rs i k with
    | false =>
      have hqn := hq.no hv
      have HV := Lib.hid hq
      have HEV := Lib.hid (eqISelf q)
      have hq5 : q.length ≤ 5 := by rw [hqn]; simp
      have hq0 : ((q.length : Int) == 0) = true := by rw [hqn]; rfl
      clear hv hq hqn
      have g0 := hrg
      clear hrg
      have p0 := Below.refl w.heap.size w
      have z0 : w.heap.size ≤ w.heap.size := Nat.le_refl _
      go_wp2_with fail
      refine (impChainOf_any _ _ _ _ _ _ (g0.row.more (by omega)) HM.out HV.out).mono ?_
      rintro e w1 ⟨A1, c1, rfl, hc1, o1, e1⟩
      have z1 := e1.size
      have g1 := g0.keep (by omega) e1
      clear g0
      have a1 := o1
      clear o1
      have p1 := p0.trans (e1.mono (by omega))
      clear p0 e1
      go_wp2_with fail
      refine (specChainOf_any _ _ _ _ _ _ (g1.row.more (by omega)) (by omega) HM.out HV.out).mono ?_
      rintro e w2 ⟨A2, c2, rfl, hc2, o2, e2⟩
      have z2 := e2.size
      have g2 := g1.keep (by omega) e2
      clear g1
      have a2 := a1.keep (by omega) e2
      clear a1
      have s2 := o2
      clear o2
      have p2 := p1.trans (e2.mono (by omega))
      clear p1 e2
      go_wp2_with fail
      refine (equalInts_any _ _ _ _ _ _ _ (a2.row.more (by omega)) (s2.row.more (by omega)) (by omega)).mono ?_
      rw [HEV.out]
      rintro e w3 ⟨rfl, n3, hw3⟩
      have e3 : Below w2.heap.size w2 w3 := by rw [hw3]; exact drew_b _ _
      clear hw3
      have z3 := e3.size
      have g3 := g2.keep (by omega) e3
      clear g2
      have a3 := a2.keep (by omega) e3
      clear a2
      have s3 := s2.keep (by omega) e3
      clear s2
      have p3 := p2.trans (e3.mono (by omega))
      clear p2 e3
      clear s3
      go_wp2_with fail
      refine (specChainOf_any _ _ _ _ _ _ (g3.row.more (by omega)) (by omega) HM.out HV.out).mono ?_
      rintro e w4 ⟨A4, c4, rfl, hc4, o4, e4⟩
      have z4 := e4.size
      have g4 := g3.keep (by omega) e4
      clear g3
      have a4 := a3.keep (by omega) e4
      clear a3
      have s4 := o4
      clear o4
      have p4 := p3.trans (e4.mono (by omega))
      clear p3 e4
      clear g4
      go_wp2_with fail
      refine (equalInts_any _ _ _ _ _ _ _ (a4.row.more (by omega)) (s4.row.more (by omega)) (by omega)).mono ?_
      rw [HEV.out]
      rintro e w5 ⟨rfl, n5, hw5⟩
      have e5 : Below w4.heap.size w4 w5 := by rw [hw5]; exact drew_b _ _
      clear hw5
      have z5 := e5.size
      have a5 := a4.keep (by omega) e5
      clear a4
      have s5 := s4.keep (by omega) e5
      clear s4
      have p5 := p4.trans (e5.mono (by omega))
      clear p4 e5
      go_wp2_with fail
      go_ret
      exact ⟨rfl, HB0.out.trans (p5.mono z00)⟩
    | true =>
      obtain ⟨e1, e2, a, b, rfl, rfl, ha, hb⟩ := chainB_parts hv
      have hn5 := e2.n5
      obtain ⟨T, hT⟩ := exists_chain e2 ha hb
      have hqT := hq.yes hv hT (by omega)
      have hql : q.length = T.length + 1 := by rw [hqT, ints_len]; rfl
      have hq5 := hq.len
      have hqnd : q.Nodup := by rw [hqT]; exact ints_nodup hT.nodup
      have hrv : ratesB rs = true := by rw [e1]; exact ratesB_mat e2
      have hcv := cheapV_yes hrv
      have hq0 : ((q.length : Int) == 0) = false := beq_eq_false_iff_ne.2 (by omega)
      have HV := Lib.hid hq
      have HEV := Lib.hid (eqISelf q)
      have HT := Lib.hid hT
      have HQT := Lib.hid hqT
      have HND := Lib.hid hqnd
      have HE1 := Lib.hid e1
      have HRM := Lib.hid e2
      have HCV := Lib.hid hcv
      have HTL := Lib.hid (show T.length + 1 = q.length from hql.symm)
      have htl5 : T.length ≤ 4 := by omega
      clear hv hq hT hqT hqnd e1 e2 hrv hcv hql
      have g0 := hrg
      clear hrg
      have p0 := Below.refl w.heap.size w
      have z0 : w.heap.size ≤ w.heap.size := Nat.le_refl _
      go_wp2_with fail
      refine (impChainOf_any _ _ _ _ _ _ (g0.row.more (by omega)) HM.out HV.out).mono ?_
      rintro e w1 ⟨A1, c1, rfl, hc1, o1, e1⟩
      have z1 := e1.size
      have g1 := g0.keep (by omega) e1
      clear g0
      have a1 := o1
      clear o1
      have p1 := p0.trans (e1.mono (by omega))
      clear p0 e1
      go_wp2_with fail
      refine (specChainOf_any _ _ _ _ _ _ (g1.row.more (by omega)) (by omega) HM.out HV.out).mono ?_
      rintro e w2 ⟨A2, c2, rfl, hc2, o2, e2⟩
      have z2 := e2.size
      have g2 := g1.keep (by omega) e2
      clear g1
      have a2 := a1.keep (by omega) e2
      clear a1
      have s2 := o2
      clear o2
      have p2 := p1.trans (e2.mono (by omega))
      clear p1 e2
      go_wp2_with fail
      refine (equalInts_any _ _ _ _ _ _ _ (a2.row.more (by omega)) (s2.row.more (by omega)) (by omega)).mono ?_
      rw [HEV.out]
      rintro e w3 ⟨rfl, n3, hw3⟩
      have e3 : Below w2.heap.size w2 w3 := by rw [hw3]; exact drew_b _ _
      clear hw3
      have z3 := e3.size
      have g3 := g2.keep (by omega) e3
      clear g2
      have a3 := a2.keep (by omega) e3
      clear a2
      have s3 := s2.keep (by omega) e3
      clear s2
      have p3 := p2.trans (e3.mono (by omega))
      clear p2 e3
      clear s3
      have hG3 : Grid w3 0 w3.heap.size B rs := (g3.row.more (by omega))
      have hA3 : Ints w3 w3.heap.size A1 q := (a3.row.more (by omega))
      clear g3 a3
      obtain ⟨wS, hwS⟩ : ∃ wS, wS = w3 := ⟨_, rfl⟩
      rw [← hwS] at hG3 hA3 p3 ⊢
      have HG := Lib.hid hG3
      have HA := Lib.hid hA3
      have HP := Lib.hid p3
      have hps := p3.size
      clear hwS p3 hG3 hA3
      obtain ⟨D, hD⟩ : ∃ D, cellOf rs = D := ⟨_, rfl⟩
      obtain ⟨n, hn⟩ : ∃ n, rs.length = n := ⟨_, rfl⟩
      have HNN := Lib.hid hn
      have HE2 := Lib.hid (show rs = mat n D by rw [← hD, ← hn]; exact HE1.out)
      have HT2 := Lib.hid (show IsChain n D a b T by rw [← hD, ← hn]; exact HT.out)
      have HR2 := Lib.hid (show RM n D by rw [← hD, ← hn]; exact HRM.out)
      have HC2 := Lib.hid (show cheapV rs = mat n (fw7 n D) by rw [← hD, ← hn]; exact HCV.out)
      rw [hn] at ha hb hn5 h1 h6 hdc
      rw [hn]
      clear hD hn HE1 HT HRM HCV HV HEV
      obtain ⟨bq, oq, rfl, hbq, hcq⟩ := HA.out.open (by rw [List.length_map]; have := HTL.out; omega)
      have hcell : ∀ j (h : j < (a :: T).length), wS.cell? ⟨bq, oq + j, none⟩ = some (.int .i64 ((a :: T)[j] : Int)) := fun j h => hcq j _ (by rw [HQT.out]; exact ints_at0 h)
      have HCELL := Lib.hid hcell
      obtain ⟨bG, oG, pG, qG, cG, rfl, hsq⟩ := (show Grid wS 0 wS.heap.size B (mat n D) by rw [← HE2.out]; exact HG.out).sq (by omega)
      have HSQ := Lib.hid hsq
      clear hcq hcell hsq
      go_wp2_with fail
      go_loopw [7, 8] (fun v x wr => ∃ p : Nat, p ≤ T.length ∧ v = .int .i64 (csum D a (T.take p)) ∧ x = .int .i64 ((p : Int) + 1) ∧ ∃ m, wr = wS.drewN m) (fun _ x _ => T.length + 2 - (intOf x).toNat)
      case atStart => exact ⟨0, by omega, by simp [csum], by simp, 0, rfl⟩
      case round =>
        obtain ⟨p, hp, rfl, rfl, hdr⟩ := hrel
        have HDR := Lib.hid hdr
        have hbw : Below wS.heap.size wS wr := by obtain ⟨m, rfl⟩ := hdr; exact drewBelow _ _
        have hTLq := HTL.out
        by_cases hlp : p < T.length
        · have hpL : p < (a :: T).length := by rw [List.length_cons]; omega
          have hpL2 : p + 1 < (a :: T).length := by rw [List.length_cons]; omega
          have hct := csum_take (D := D) (i := a) hlp
          have y1 := cell_keep hbw hbq (HCELL.out p hpL)
          have y2 := cell_keep hbw hbq (HCELL.out (p + 1) hpL2)
          have hx : (a :: T)[p] < n := by
            rcases List.mem_cons.1 (List.getElem_mem hpL) with h | h
            · rw [h]; exact ha
            · exact HT2.out.lt _ h
          have hy : (a :: T)[p + 1] < n := HT2.out.lt _ (by rw [List.getElem_cons_succ]; exact List.getElem_mem hlp)
          have hxe : (a :: T)[p + 1] = T[p] := rfl
          rw [← hxe] at hct
          obtain ⟨x, hx0⟩ : ∃ x, (a :: T)[p] = x := ⟨_, rfl⟩
          obtain ⟨y, hy0⟩ : ∃ y, (a :: T)[p + 1] = y := ⟨_, rfl⟩
          rw [hx0] at y1 hx hct
          rw [hy0] at y2 hy hct
          obtain ⟨_, hall⟩ := HSQ.out.below hbw
          obtain ⟨z1, _, z3⟩ := hall x hx
          have z4 := z3 y hy
          have g1 := HR2.out.lo x y hx hy
          have g2 := HR2.out.hi x y hx hy
          have t1 := csum_nonneg HR2.out ha (t := T.take p) (fun y hy => HT2.out.lt y (List.mem_of_mem_take hy))
          have t2 := csum_hi HR2.out ha (t := T.take p) (fun y hy => HT2.out.lt y (List.mem_of_mem_take hy))
          rw [List.length_take] at t2
          obtain ⟨d2, hd2⟩ : ∃ d, D x y = d := ⟨_, rfl⟩
          rw [hd2] at z4 g1 g2 hct
          obtain ⟨t, ht⟩ : ∃ t, csum D a (T.take p) = t := ⟨_, rfl⟩
          rw [ht] at t1 t2 hct ⊢
          have HCT := Lib.hid hct
          have hwp : IntKind.i64.wrap ((p : Int) + 1 - 1) = (p : Int) := by rw [Int.add_sub_cancel]; exact IntWalk.i64_in _ (by omega)
          have hwt : IntKind.i64.wrap (t + d2) = t + d2 := IntWalk.i64_in _ (by omega)
          have y2' : wr.cell? ⟨bq, oq + ((p : Int) + 1).toNat, none⟩ = some (.int .i64 (y : Int)) := by rw [show ((p : Int) + 1).toNat = p + 1 by omega]; exact y2
          have j0 : decide ((p : Int) + 1 < (q.length : Int)) = true := decide_eq_true (by omega)
          have j1 : (0 : Int) ≤ p := by omega
          have j2 : (p : Int) < (q.length : Int) := by omega
          have j3 : (0 : Int) ≤ (p : Int) + 1 := by omega
          have j4 : (p : Int) + 1 < (q.length : Int) := by omega
          have j5 : (0 : Int) ≤ x := by omega
          have j6 : (x : Int) < n := by omega
          have j7 : (0 : Int) ≤ y := by omega
          have j8 : (y : Int) < n := by omega
          clear hpL hpL2 hxe hx0 hy0 hd2 ht hct hall z3 hdr hbw hTLq
          go_wp2_with fail
          go_quiet (fail)
          go_wp2_with fail
          go_roundw
          case rel => exact ⟨p + 1, by omega, by rw [HCT.out], by go_num, by obtain ⟨m, hm⟩ := HDR.out; rw [hm]; exact ⟨_, World.drewN_drewN ..⟩⟩
          case measure => simp [intOf]; omega
        · have hpT : T.length = p := by omega
          have hTt : T.take p = T := List.take_of_length_le (by omega)
          have hsum := HT2.out.sum
          rw [hTt]
          have hj0 : decide ((p : Int) + 1 < (q.length : Int)) = false := decide_eq_false (by omega)
          have y1 := cell_keep hbw hbq (HCELL.out 0 (by simp))
          have y2 := cell_keep hbw hbq (HCELL.out T.length (by simp))
          have hlast : (a :: T)[T.length] = b := by rw [← ends_last]; exact HT2.out.en
          rw [hlast] at y2
          rw [List.getElem_cons_zero, Nat.add_zero] at y1
          rw [hsum]
          obtain ⟨u, hu⟩ : ∃ u, fw7 n D a b = u := ⟨_, rfl⟩
          rw [hu]
          have HU := Lib.hid hu
          have hgr2 : Grid wr 0 wr.heap.size (some ⟨bG, oG, none⟩) rs := HG.out.past hbw
          have hch := impCheapestOf_any (some ⟨bG, oG, none⟩) d rs wr hgr2 HM.out
          rw [HC2.out, HNN.out] at hch
          have HCH := Lib.hid hch
          have hdf := fun (W : World) (hW : Below wr.heap.size wr W) => different_any (some ⟨bq, oq, none⟩) c1 q W ((HA.out.past hbw).past hW) hc1 (by omega) HND.out
          have HDF := Lib.hid hdf
          have HBW := Lib.hid hbw
          obtain ⟨N1, hN1⟩ : ∃ N1, q.length = N1 := ⟨_, rfl⟩
          rw [hN1] at HDF hTLq hj0 ⊢
          have hwl : IntKind.i64.wrap ((N1 : Int) - 1) = (T.length : Int) := by rw [show (N1 : Int) - 1 = (T.length : Int) by omega]; exact IntWalk.i64_in _ (by omega)
          have k1 : (0 : Int) < (N1 : Int) := by omega
          have k2 : (0 : Int) ≤ (T.length : Int) := by omega
          have k3 : (T.length : Int) < (N1 : Int) := by omega
          have k4 : ((a : Int) == (a : Int)) = true := by simp
          have k5 : ((b : Int) == (b : Int)) = true := by simp
          have k6 : (u == u) = true := by simp
          have k7 : ((N1 : Int) == (N1 : Int)) = true := by simp
          have m1 : (0 : Int) ≤ a := by omega
          have m2 : (a : Int) < n := by omega
          have m3 : (0 : Int) ≤ b := by omega
          have m4 : (b : Int) < n := by omega
          clear hsum hu hgr2 hch hdf hbw hlast hTt hdr hN1 hpT hTLq
          go_wp2_with fail
          refine HCH.out.mono ?_
          rintro e wc ⟨Ac, cc2, rfl, hcc, hmc, hbc⟩
          rw [mat_len]
          obtain ⟨b1, o1, p1, q1, k1', rfl, hsqc⟩ := hmc.row.sq (by omega)
          obtain ⟨_, hallc⟩ := hsqc
          obtain ⟨x1, _, x3⟩ := hallc a ha
          have x4 := x3 b hb
          rw [HU.out] at x4
          have hq2 := HDF.out wc hbc
          have HQ2 := Lib.hid hq2
          have HBC := Lib.hid hbc
          clear hcc hmc hbc hallc x3 hq2
          go_wp2_with fail
          refine HQ2.out.mono ?_
          rintro e we ⟨rfl, ne, hwe⟩
          have HEE := Lib.hid (show Below wc.heap.size wc we by rw [hwe]; exact drewBelow _ _)
          have hzc := HBC.out.size
          have hzw := HBW.out.size
          clear hwe
          go_wp2_with fail
          go_ret
          exact ⟨rfl, HB0.out.trans ((HP.out.trans ((HBW.out.trans ((HBC.out.trans (HEE.out.mono (by omega))).mono (by omega))).mono (by omega))).mono z00)⟩
  · go_enter Try.func11, Try.ntmps11
    go_wp2
    go_ret
    exact ⟨rfl, Below.refl _ _⟩
end Go.Proofs.Ytmbpcilgjolaeaa
