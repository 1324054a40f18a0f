/- The walk of the law FnChainsOfFair. No condition. -/
import Derived.Test.YtmbpcilgjolaeaaUs
namespace Go.Proofs.Ytmbpcilgjolaeaa
open Go.RowKit
theorem fair_short {n i k : Nat} {D : Nat → Nat → Int} {T : List Nat} (h : RM n D) (hf : Fair n D) (hi : i < n) (hk : k < n) (hT : IsChain n D i k T) : T.length ≤ 1 ∧ (i = k → T.length = 0) := by
  have h1 := hT.few [k] (by simpa using hk) rfl (by rw [fw_same h hf hi hk]; simp [csum])
  refine ⟨by simpa using h1, fun e => ?_⟩
  subst e
  have h2 := hT.few [] (by simp) rfl (by rw [(fw_rm h).dg i hi]; rfl)
  simpa using h2


set_option maxRecDepth 100000 in
set_option maxHeartbeats 8000000 in
theorem chainsOfFair_law (A : Option Addr) (c : Nat) (zs : List Int) (v0 : World) (hr : Own v0 0 v0.heap.size A (zs.map (Value.int .u8))) (hx : zs.length ≤ c ∧ c ≤ maxLen ∧ ∀ z ∈ zs, (Lit.int .u8 z).wf = true) :
    Calls Try.prog 14 #[.slice A zs.length c] v0 fun e w' => e = .returned (.bool true) ∧ Below v0.heap.size v0 w' := by
  have hl : zs.length ≤ 9223372036854775807 := by have := hx.1; have := hx.2.1; unfold maxLen at this; omega
  have HX := Lib.hid hx
  clear hx
  by_cases h20 : zs.length ≤ 1048576
  · go_enter Try.func14, Try.ntmps14
    go_wp2_with fail
    refine (drawChainOf_any _ _ _ _ hr HX.out).mono ?_
    rintro e w ⟨B, d, rs, i, k, rfl, ⟨⟨hi0, hi5⟩, ⟨hk0, hk5⟩⟩, ⟨h1, h6⟩, hdc, hsh, hrg, hb0⟩
    have HM := Lib.hid hsh
    have HB0 := Lib.hid hb0
    have z00 := hb0.size
    clear hsh hb0
    obtain ⟨q, hq⟩ := exists_ch rs i k
    cases hv : chainB rs i k with
    | false =>
      have hqn := hq.no hv
      have HV := Lib.hid hq
      have HEV := Lib.hid (eqISelf q)
      have hq5 : q.length ≤ 5 := by rw [hqn]; simp
      have hq0 : ((q.length : Int) == 0) = true := by rw [hqn]; rfl
      clear hv hq hqn
      have g0 := hrg
      clear hrg
      have p0 := Below.refl w.heap.size w
      have z0 : w.heap.size ≤ w.heap.size := Nat.le_refl _
      go_wp2_with fail
      refine (impChainOf_any _ _ _ _ _ _ (g0.row.more (by omega)) HM.out HV.out).mono ?_
      rintro e w1 ⟨A1, c1, rfl, hc1, o1, e1⟩
      have z1 := e1.size
      have g1 := g0.keep (by omega) e1
      clear g0
      have a1 := o1
      clear o1
      have p1 := p0.trans (e1.mono (by omega))
      clear p0 e1
      go_wp2_with fail
      refine (specChainOf_any _ _ _ _ _ _ (g1.row.more (by omega)) (by omega) HM.out HV.out).mono ?_
      rintro e w2 ⟨A2, c2, rfl, hc2, o2, e2⟩
      have z2 := e2.size
      have g2 := g1.keep (by omega) e2
      clear g1
      have a2 := a1.keep (by omega) e2
      clear a1
      have s2 := o2
      clear o2
      have p2 := p1.trans (e2.mono (by omega))
      clear p1 e2
      go_wp2_with fail
      refine (equalInts_any _ _ _ _ _ _ _ (a2.row.more (by omega)) (s2.row.more (by omega)) (by omega)).mono ?_
      rw [HEV.out]
      rintro e w3 ⟨rfl, n3, hw3⟩
      have e3 : Below w2.heap.size w2 w3 := by rw [hw3]; exact drew_b _ _
      clear hw3
      have z3 := e3.size
      have g3 := g2.keep (by omega) e3
      clear g2
      have a3 := a2.keep (by omega) e3
      clear a2
      have s3 := s2.keep (by omega) e3
      clear s2
      have p3 := p2.trans (e3.mono (by omega))
      clear p2 e3
      clear s3 a3
      go_wp2_with fail
      refine (impChainOf_any _ _ _ _ _ _ (g3.row.more (by omega)) HM.out HV.out).mono ?_
      rintro e w4 ⟨A4, c4, rfl, hc4, o4, e4⟩
      have z4 := e4.size
      have g4 := g3.keep (by omega) e4
      clear g3
      have a4 := o4
      clear o4
      have p4 := p3.trans (e4.mono (by omega))
      clear p3 e4
      clear g4 a4
      go_wp2_with fail
      go_ret
      exact ⟨rfl, HB0.out.trans (p4.mono z00)⟩
    | true =>
      obtain ⟨e1, e2, a, b, rfl, rfl, ha, hb⟩ := chainB_parts hv
      obtain ⟨T, hT⟩ := exists_chain e2 ha hb
      have hqT := hq.yes hv hT (by omega)
      have hql : q.length = T.length + 1 := by rw [hqT, ints_len]; rfl
      have hq5 := hq.len
      have hrv : ratesB rs = true := by rw [e1]; exact ratesB_mat e2
      have hfr : fairV rs = decide (Fair rs.length (cellOf rs)) := by rw [fairV, hrv, Bool.true_and]
      obtain ⟨t, ht⟩ : ∃ t, fairV rs = t := ⟨_, rfl⟩
      rw [ht] at hfr
      have HSH := Lib.hid (fun h : t = true => fair_short e2 (of_decide_eq_true (hfr.symm.trans h)) ha hb hT)
      have hq0 : ((q.length : Int) == 0) = false := beq_eq_false_iff_ne.2 (by omega)
      have HV := Lib.hid hq
      have HEV := Lib.hid (eqISelf q)
      have HTF := Lib.hid ht
      have HQL := Lib.hid hql
      clear hv hq hT hqT e1 e2 hrv hfr ht hql
      have g0 := hrg
      clear hrg
      have p0 := Below.refl w.heap.size w
      have z0 : w.heap.size ≤ w.heap.size := Nat.le_refl _
      go_wp2_with fail
      refine (impChainOf_any _ _ _ _ _ _ (g0.row.more (by omega)) HM.out HV.out).mono ?_
      rintro e w1 ⟨A1, c1, rfl, hc1, o1, e1⟩
      have z1 := e1.size
      have g1 := g0.keep (by omega) e1
      clear g0
      have a1 := o1
      clear o1
      have p1 := p0.trans (e1.mono (by omega))
      clear p0 e1
      go_wp2_with fail
      refine (specChainOf_any _ _ _ _ _ _ (g1.row.more (by omega)) (by omega) HM.out HV.out).mono ?_
      rintro e w2 ⟨A2, c2, rfl, hc2, o2, e2⟩
      have z2 := e2.size
      have g2 := g1.keep (by omega) e2
      clear g1
      have a2 := a1.keep (by omega) e2
      clear a1
      have s2 := o2
      clear o2
      have p2 := p1.trans (e2.mono (by omega))
      clear p1 e2
      go_wp2_with fail
      refine (equalInts_any _ _ _ _ _ _ _ (a2.row.more (by omega)) (s2.row.more (by omega)) (by omega)).mono ?_
      rw [HEV.out]
      rintro e w3 ⟨rfl, n3, hw3⟩
      have e3 : Below w2.heap.size w2 w3 := by rw [hw3]; exact drew_b _ _
      clear hw3
      have z3 := e3.size
      have g3 := g2.keep (by omega) e3
      clear g2
      have a3 := a2.keep (by omega) e3
      clear a2
      have s3 := s2.keep (by omega) e3
      clear s2
      have p3 := p2.trans (e3.mono (by omega))
      clear p2 e3
      clear s3 a3
      go_wp2_with fail
      refine (impChainOf_any _ _ _ _ _ _ (g3.row.more (by omega)) HM.out HV.out).mono ?_
      rintro e w4 ⟨A4, c4, rfl, hc4, o4, e4⟩
      have z4 := e4.size
      have g4 := g3.keep (by omega) e4
      clear g3
      have a4 := o4
      clear o4
      have p4 := p3.trans (e4.mono (by omega))
      clear p3 e4
      clear a4
      go_wp2_with fail
      refine (impIsFair_any _ _ _ _ (g4.row.more (by omega)) HM.out).mono ?_
      rw [HTF.out]
      rintro e w5 ⟨rfl, e5⟩
      have z5 := e5.size
      have g5 := g4.keep (by omega) e5
      clear g4
      have p5 := p4.trans (e5.mono (by omega))
      clear p4 e5
      clear g5
      cases t with
      | false =>
        go_wp2_with fail
        go_ret
        exact ⟨rfl, HB0.out.trans (p5.mono z00)⟩
      | true =>
        have hs := HSH.out (by first | rfl | trivial)
        have hql := HQL.out
        have hd2 : decide ((q.length : Int) ≤ 2) = true := decide_eq_true (by omega)
        by_cases hab : a = b
        · have hne : ((a : Int) != (b : Int)) = false := by rw [hab]; simp
          have hq1 : ((q.length : Int) == 1) = true := by have := hs.2 hab; simp; omega
          clear hab hs hql
          go_wp2_with fail
          go_ret
          exact ⟨rfl, HB0.out.trans (p5.mono z00)⟩
        · have hne : ((a : Int) != (b : Int)) = true := by simp; omega
          clear hab hs hql
          go_wp2_with fail
          go_ret
          exact ⟨rfl, HB0.out.trans (p5.mono z00)⟩
  · go_enter Try.func14, Try.ntmps14
    go_wp2
    go_ret
    exact ⟨rfl, Below.refl _ _⟩
end Go.Proofs.Ytmbpcilgjolaeaa
