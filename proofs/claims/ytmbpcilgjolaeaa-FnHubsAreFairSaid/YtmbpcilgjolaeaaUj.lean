/- The walk of the law FnHubCost. No condition. -/
import Derived.Test.YtmbpcilgjolaeaaUi
import Derived.Test.YtmbpcilgjolaeaaUa
namespace Go.Proofs.Ytmbpcilgjolaeaa
open Go.RowKit
theorem hub_most {n m : Nat} {D : Nat → Nat → Int} (h : RM n D) (hm : m < n) : AtMost n (fw7 n D) (hubD D m) := fun i k hi hk => by
  unfold hubD
  split
  · rename_i e; subst e; rw [(fw_rm h).dg i hi]; exact Int.le_refl _
  · have h1 := fw_fair h i m k hi hm hk
    have h2 := fw_le h i m hi hm
    have h3 := fw_le h m k hm hk
    omega
theorem hub_fair {n m : Nat} {D : Nat → Nat → Int} (h : RM n D) (hm : m < n) (hf : Fair n D) : AtMost n D (hubD D m) := fun i k hi hk => by
  unfold hubD
  split
  · rename_i e; subst e; rw [h.dg i hi]; exact Int.le_refl _
  · exact hf i m k hi hm hk


set_option maxRecDepth 100000 in
set_option maxHeartbeats 8000000 in
theorem hubCost_law (A : Option Addr) (c : Nat) (zs : List Int) (v0 : World) (hr : Own v0 0 v0.heap.size A (zs.map (Value.int .u8))) (hx : zs.length ≤ c ∧ c ≤ maxLen ∧ ∀ z ∈ zs, (Lit.int .u8 z).wf = true) :
    Calls Try.prog 12 #[.slice A zs.length c] v0 fun e w' => e = .returned (.bool true) ∧ Below v0.heap.size v0 w' := by
  have hl : zs.length ≤ 9223372036854775807 := by have := hx.1; have := hx.2.1; unfold maxLen at this; omega
  have HX := Lib.hid hx
  clear hx
  by_cases h20 : zs.length ≤ 1048576
  · go_enter Try.func12, Try.ntmps12
    go_wp2_with fail
    refine (drawHubCost_any _ _ _ _ hr HX.out).mono ?_
    rintro e w ⟨B, d, rs, hub, rfl, ⟨hu0, hu5⟩, ⟨h1, h6⟩, hdc, hsh, hrg, hb0⟩
    have HM := Lib.hid hsh
    have HB0 := Lib.hid hb0
    have z00 := hb0.size
    clear hsh hb0
    have hbq := hubV_bd rs hub
    cases hv : hubB rs hub with
    | false =>
      have HV := Lib.hid (hubV_no hv)
      clear hv hbq
      have g0 := hrg
      clear hrg
      have p0 := Below.refl w.heap.size w
      have z0 : w.heap.size ≤ w.heap.size := Nat.le_refl _
      go_wp2_with fail
      refine (impHubCost_any _ _ _ _ _ (g0.row.more (by omega)) HM.out).mono ?_
      rw [HV.out]
      rintro e w1 ⟨A1, c1, rfl, hc1, o1, e1⟩
      have z1 := e1.size
      have g1 := g0.keep (by omega) e1
      clear g0
      have a1 := o1
      clear o1
      have p1 := p0.trans (e1.mono (by omega))
      clear p0 e1
      go_wp2_with fail
      refine (specHubCost_any _ _ _ _ _ (g1.row.more (by omega)) (by omega) HM.out).mono ?_
      rw [HV.out]
      rintro e w2 ⟨A2, c2, rfl, hc2, o2, e2⟩
      have z2 := e2.size
      have g2 := g1.keep (by omega) e2
      clear g1
      have a2 := a1.keep (by omega) e2
      clear a1
      have s2 := o2
      clear o2
      have p2 := p1.trans (e2.mono (by omega))
      clear p1 e2
      have HEN := Lib.hid (eqG_self [])
      have HRN := Lib.hid (show ∀ (i : Nat) (hi : i < ([] : List (List Int)).length), ([] : List (List Int))[i].length ≤ 1000000000 from fun i hi => by simp at hi)
      go_wp2_with fail
      refine (equalRows_any _ _ _ _ [] [] _ (a2.row.more (by omega)) (s2.row.more (by omega)) (by simp) HRN.out).mono ?_
      rw [HEN.out]
      rintro e w3 ⟨rfl, n3, hw3⟩
      have e3 : Below w2.heap.size w2 w3 := by rw [hw3]; exact drew_b _ _
      clear hw3
      have z3 := e3.size
      have g3 := g2.keep (by omega) e3
      clear g2
      have a3 := a2.keep (by omega) e3
      clear a2
      have s3 := s2.keep (by omega) e3
      clear s2
      have p3 := p2.trans (e3.mono (by omega))
      clear p2 e3
      clear s3
      go_wp2_with fail
      refine (specHubCost_any _ _ _ _ _ (g3.row.more (by omega)) (by omega) HM.out).mono ?_
      rw [HV.out]
      rintro e w4 ⟨A4, c4, rfl, hc4, o4, e4⟩
      have z4 := e4.size
      have g4 := g3.keep (by omega) e4
      clear g3
      have a4 := a3.keep (by omega) e4
      clear a3
      have s4 := o4
      clear o4
      have p4 := p3.trans (e4.mono (by omega))
      clear p3 e4
      clear g4
      go_wp2_with fail
      refine (equalRows_any _ _ _ _ [] [] _ (a4.row.more (by omega)) (s4.row.more (by omega)) (by simp) HRN.out).mono ?_
      rw [HEN.out]
      rintro e w5 ⟨rfl, n5, hw5⟩
      have e5 : Below w4.heap.size w4 w5 := by rw [hw5]; exact drew_b _ _
      clear hw5
      have z5 := e5.size
      have a5 := a4.keep (by omega) e5
      clear a4
      have s5 := s4.keep (by omega) e5
      clear s4
      have p5 := p4.trans (e5.mono (by omega))
      clear p4 e5
      go_wp2_with fail
      go_ret
      exact ⟨rfl, HB0.out.trans (p5.mono z00)⟩
    | true =>
      obtain ⟨e1, e2, m, e3, e4, e5⟩ := hubB_parts hv
      have hn1 := e2.n1
      have hn5 := e2.n5
      have hrv : ratesB rs = true := by rw [e1]; exact ratesB_mat e2
      have c1 := cheapV_yes hrv
      have hbc := cheapV_bd rs
      have hfr : fairV rs = decide (Fair rs.length (cellOf rs)) := by rw [fairV, hrv, Bool.true_and]
      obtain ⟨q, hq⟩ : ∃ q, hubV rs hub = q := ⟨_, rfl⟩
      rw [hq] at hbq e5
      obtain ⟨x, hx2⟩ : ∃ x, cheapV rs = x := ⟨_, rfl⟩
      rw [hx2] at c1 hbc
      obtain ⟨t, ht⟩ : ∃ t, fairV rs = t := ⟨_, rfl⟩
      rw [ht] at hfr
      have HRq := Lib.hid (show ∀ (i : Nat) (hi : i < q.length), q[i].length ≤ 1000000000 from fun i hi => by have := hbq.2 _ (List.getElem_mem hi); omega)
      have HMq := Lib.hid (show ∀ y ∈ q, y.length ≤ 1000000000 from fun y hy => by have := hbq.2 y hy; omega)
      have hlq := hbq.1
      have hq0 : ((q.length : Int) == 0) = false := by rw [e5, mat_len]; exact beq_eq_false_iff_ne.2 (by omega)
      have HV := Lib.hid hq
      have HC := Lib.hid hx2
      have HT := Lib.hid ht
      have HEQ := Lib.hid (eqG_self q)
      have HAM := Lib.hid (And.intro e1 (And.intro e5 (And.intro c1 (hub_most e2 e4))))
      have HFA := Lib.hid (fun h : t = true => hub_fair e2 e4 (of_decide_eq_true (hfr.symm.trans h)))
      clear e1 e2 e3 e4 e5 hrv c1 hfr hq hx2 ht hbq hbc hv
      have g0 := hrg
      clear hrg
      have p0 := Below.refl w.heap.size w
      have z0 : w.heap.size ≤ w.heap.size := Nat.le_refl _
      go_wp2_with fail
      refine (impHubCost_any _ _ _ _ _ (g0.row.more (by omega)) HM.out).mono ?_
      rw [HV.out]
      rintro e w1 ⟨A1, c1, rfl, hc1, o1, e1⟩
      have z1 := e1.size
      have g1 := g0.keep (by omega) e1
      clear g0
      have a1 := o1
      clear o1
      have p1 := p0.trans (e1.mono (by omega))
      clear p0 e1
      go_wp2_with fail
      refine (specHubCost_any _ _ _ _ _ (g1.row.more (by omega)) (by omega) HM.out).mono ?_
      rw [HV.out]
      rintro e w2 ⟨A2, c2, rfl, hc2, o2, e2⟩
      have z2 := e2.size
      have g2 := g1.keep (by omega) e2
      clear g1
      have a2 := a1.keep (by omega) e2
      clear a1
      have s2 := o2
      clear o2
      have p2 := p1.trans (e2.mono (by omega))
      clear p1 e2
      go_wp2_with fail
      refine (equalRows_any _ _ _ _ _ _ _ (a2.row.more (by omega)) (s2.row.more (by omega)) (by omega) HRq.out).mono ?_
      rw [HEQ.out]
      rintro e w3 ⟨rfl, n3, hw3⟩
      have e3 : Below w2.heap.size w2 w3 := by rw [hw3]; exact drew_b _ _
      clear hw3
      have z3 := e3.size
      have g3 := g2.keep (by omega) e3
      clear g2
      have a3 := a2.keep (by omega) e3
      clear a2
      have s3 := s2.keep (by omega) e3
      clear s2
      have p3 := p2.trans (e3.mono (by omega))
      clear p2 e3
      clear s3
      go_wp2_with fail
      refine (impCheapestOf_any _ _ _ _ (g3.row.more (by omega)) HM.out).mono ?_
      rw [HC.out]
      rintro e w4 ⟨A4, c4, rfl, hc4, o4, e4⟩
      have z4 := e4.size
      have g4 := g3.keep (by omega) e4
      clear g3
      have a4 := a3.keep (by omega) e4
      clear a3
      have b4 := o4
      clear o4
      have p4 := p3.trans (e4.mono (by omega))
      clear p3 e4
      go_wp2_with fail
      refine (rowsAtMost_rs (b4.row.more (by omega)) (a4.row.more (by omega)) HAM.out.2.2.1 HAM.out.2.1 hn1 hn5 HAM.out.2.2.2).mono ?_
      rintro e w5 ⟨rfl, e5⟩
      have z5 := e5.size
      have g5 := g4.keep (by omega) e5
      clear g4
      have a5 := a4.keep (by omega) e5
      clear a4
      have b5 := b4.keep (by omega) e5
      clear b4
      have p5 := p4.trans (e5.mono (by omega))
      clear p4 e5
      clear b5
      go_wp2_with fail
      refine (impIsFair_any _ _ _ _ (g5.row.more (by omega)) HM.out).mono ?_
      rw [HT.out]
      rintro e w6 ⟨rfl, e6⟩
      have z6 := e6.size
      have g6 := g5.keep (by omega) e6
      clear g5
      have a6 := a5.keep (by omega) e6
      clear a5
      have p6 := p5.trans (e6.mono (by omega))
      clear p5 e6
      cases t with
      | false =>
        go_wp2_with fail
        go_ret
        exact ⟨rfl, HB0.out.trans (p6.mono z00)⟩
      | true =>
        go_wp2_with fail
        refine (rowsAtMost_rs (g6.row.more (by omega)) (a6.row.more (by omega)) HAM.out.1 HAM.out.2.1 hn1 hn5 (HFA.out (by first | rfl | trivial))).mono ?_
        rintro e w7 ⟨rfl, e7⟩
        have z7 := e7.size
        have g7 := g6.keep (by omega) e7
        clear g6
        have a7 := a6.keep (by omega) e7
        clear a6
        have p7 := p6.trans (e7.mono (by omega))
        clear p6 e7
        go_wp2_with fail
        go_ret
        exact ⟨rfl, HB0.out.trans (p7.mono z00)⟩
  · go_enter Try.func12, Try.ntmps12
    go_wp2
    go_ret
    exact ⟨rfl, Below.refl _ _⟩
end Go.Proofs.Ytmbpcilgjolaeaa
