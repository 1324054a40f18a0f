/- The walk of the law FnCheapestOf. No condition. -/
import Derived.Test.YtmbpcilgjolaeaaUg
namespace Go.Proofs.Ytmbpcilgjolaeaa
open Go.RowKit

set_option maxRecDepth 100000 in
set_option maxHeartbeats 8000000 in
theorem cheapestOf_law (A : Option Addr) (c : Nat) (zs : List Int) (v0 : World) (hr : Own v0 0 v0.heap.size A (zs.map (Value.int .u8))) (hx : zs.length ≤ c ∧ c ≤ maxLen ∧ ∀ z ∈ zs, (Lit.int .u8 z).wf = true) :
    Calls Try.prog 9 #[.slice A zs.length c] v0 fun e w' => e = .returned (.bool true) ∧ Below v0.heap.size v0 w' := by
  have hl : zs.length ≤ 9223372036854775807 := by have := hx.1; have := hx.2.1; unfold maxLen at this; omega
  have HX := Lib.hid hx
  clear hx
  by_cases h20 : zs.length ≤ 1048576
  · go_enter Try.func9, Try.ntmps9
    go_wp2_with fail
    refine (drawCheapestOf_any _ _ _ _ hr HX.out).mono ?_
    rintro e w ⟨B, d, rs, rfl, ⟨h1, h6⟩, hdc, hsh, hrg, hb0⟩
    have HM := Lib.hid hsh
    have HB0 := Lib.hid hb0
    have z00 := hb0.size
    clear hsh hb0
    have hbq := cheapV_bd rs
    cases hv : ratesB rs with
    | false =>
      have HV := Lib.hid (cheapV_no hv)
      clear hv hbq
      have g0 := hrg
      clear hrg
      have p0 := Below.refl w.heap.size w
      have z0 : w.heap.size ≤ w.heap.size := Nat.le_refl _
      go_wp2_with fail
      refine (impCheapestOf_any _ _ _ _ (g0.row.more (by omega)) HM.out).mono ?_
      rw [HV.out]
      rintro e w1 ⟨A1, c1, rfl, hc1, o1, e1⟩
      have z1 := e1.size
      have g1 := g0.keep (by omega) e1
      clear g0
      have a1 := o1
      clear o1
      have p1 := p0.trans (e1.mono (by omega))
      clear p0 e1
      go_wp2_with fail
      refine (specCheapestOf_any _ _ _ _ (g1.row.more (by omega)) (by omega) HM.out).mono ?_
      rw [HV.out]
      rintro e w2 ⟨A2, c2, rfl, hc2, o2, e2⟩
      have z2 := e2.size
      have g2 := g1.keep (by omega) e2
      clear g1
      have a2 := a1.keep (by omega) e2
      clear a1
      have s2 := o2
      clear o2
      have p2 := p1.trans (e2.mono (by omega))
      clear p1 e2
      have HEN := Lib.hid (eqG_self [])
      have HRN := Lib.hid (show ∀ (i : Nat) (hi : i < ([] : List (List Int)).length), ([] : List (List Int))[i].length ≤ 1000000000 from fun i hi => by simp at hi)
      go_wp2_with fail
      refine (equalRows_any _ _ _ _ [] [] _ (a2.row.more (by omega)) (s2.row.more (by omega)) (by simp) HRN.out).mono ?_
      rw [HEN.out]
      rintro e w3 ⟨rfl, n3, hw3⟩
      have e3 : Below w2.heap.size w2 w3 := by rw [hw3]; exact drew_b _ _
      clear hw3
      have z3 := e3.size
      have g3 := g2.keep (by omega) e3
      clear g2
      have a3 := a2.keep (by omega) e3
      clear a2
      have s3 := s2.keep (by omega) e3
      clear s2
      have p3 := p2.trans (e3.mono (by omega))
      clear p2 e3
      clear s3
      go_wp2_with fail
      refine (specCheapestOf_any _ _ _ _ (g3.row.more (by omega)) (by omega) HM.out).mono ?_
      rw [HV.out]
      rintro e w4 ⟨A4, c4, rfl, hc4, o4, e4⟩
      have z4 := e4.size
      have g4 := g3.keep (by omega) e4
      clear g3
      have a4 := a3.keep (by omega) e4
      clear a3
      have s4 := o4
      clear o4
      have p4 := p3.trans (e4.mono (by omega))
      clear p3 e4
      clear g4
      go_wp2_with fail
      refine (equalRows_any _ _ _ _ [] [] _ (a4.row.more (by omega)) (s4.row.more (by omega)) (by simp) HRN.out).mono ?_
      rw [HEN.out]
      rintro e w5 ⟨rfl, n5, hw5⟩
      have e5 : Below w4.heap.size w4 w5 := by rw [hw5]; exact drew_b _ _
      clear hw5
      have z5 := e5.size
      have a5 := a4.keep (by omega) e5
      clear a4
      have s5 := s4.keep (by omega) e5
      clear s4
      have p5 := p4.trans (e5.mono (by omega))
      clear p4 e5
      go_wp2_with fail
      go_ret
      exact ⟨rfl, HB0.out.trans (p5.mono z00)⟩
    | true =>
      obtain ⟨e1, e2⟩ := rates_parts hv
      have hn1 := e2.n1
      have hn5 := e2.n5
      have c1 := cheap_fair e2
      have c2 := cheap_again e2
      have c3 := fair_cheap e2
      have c4 := cheap_flip e2
      have c5 := cheapV_yes hv
      rw [← e1] at c1 c2 c3 c4
      have hfv : ratesB (cheapV rs) = true := by rw [c5]; exact ratesB_mat (fw_rm e2)
      have hff : flipL rs = mat rs.length (fun i k => cellOf rs k i) := rfl
      obtain ⟨q, hq⟩ : ∃ q, cheapV rs = q := ⟨_, rfl⟩
      rw [hq] at hbq c1 c2 c3 c4 c5 hfv
      obtain ⟨f, hf⟩ : ∃ f, flipL rs = f := ⟨_, rfl⟩
      rw [hf] at c4 hff
      obtain ⟨r, hrq⟩ : ∃ r, flipL q = r := ⟨_, rfl⟩
      rw [hrq] at c4
      obtain ⟨t, ht⟩ : ∃ t, fairV rs = t := ⟨_, rfl⟩
      rw [ht] at c3
      have hbr := cheapV_bd f
      rw [c4] at hbr
      have hbf : f.length ≤ 5 ∧ ∀ x ∈ f, x.length ≤ 5 := by rw [hff]; exact ⟨by rw [mat_len]; exact hn5, fun x hx => by rw [mat_rows hx]; exact hn5⟩
      have HAM := Lib.hid (And.intro e1 (And.intro c5 (fw_le e2)))
      have HRq := Lib.hid (show ∀ (i : Nat) (hi : i < q.length), q[i].length ≤ 1000000000 from fun i hi => by have := hbq.2 _ (List.getElem_mem hi); omega)
      have HMq := Lib.hid (show ∀ y ∈ q, y.length ≤ 1000000000 from fun y hy => by have := hbq.2 y hy; omega)
      have hlq := hbq.1
      have HRf := Lib.hid (show ∀ (i : Nat) (hi : i < f.length), f[i].length ≤ 1000000000 from fun i hi => by have := hbf.2 _ (List.getElem_mem hi); omega)
      have HMf := Lib.hid (show ∀ y ∈ f, y.length ≤ 1000000000 from fun y hy => by have := hbf.2 y hy; omega)
      have hlf := hbf.1
      have HRr := Lib.hid (show ∀ (i : Nat) (hi : i < r.length), r[i].length ≤ 1000000000 from fun i hi => by have := hbr.2 _ (List.getElem_mem hi); omega)
      have HMr := Lib.hid (show ∀ y ∈ r, y.length ≤ 1000000000 from fun y hy => by have := hbr.2 y hy; omega)
      have hlr := hbr.1
      have hq0 : ((q.length : Int) == 0) = false := by rw [c5, mat_len]; exact beq_eq_false_iff_ne.2 (by omega)
      have htt : (t == t) = true := by simp
      have HV := Lib.hid hq
      have HC1 := Lib.hid c1
      have HC2 := Lib.hid c2
      have HT := Lib.hid ht
      have HC3 := Lib.hid c3.symm
      have HC4 := Lib.hid c4
      have HF := Lib.hid hf
      have HRQ := Lib.hid hrq
      have HFV := Lib.hid hfv
      have HVR := Lib.hid hv
      have HEQ := Lib.hid (eqG_self q)
      have HER := Lib.hid (eqG_self r)
      clear e1 e2 c1 c2 c3 c4 c5 hfv hff hq hf hrq ht hbq hbf hbr hv
      have g0 := hrg
      clear hrg
      have p0 := Below.refl w.heap.size w
      have z0 : w.heap.size ≤ w.heap.size := Nat.le_refl _
      go_wp2_with fail
      refine (impCheapestOf_any _ _ _ _ (g0.row.more (by omega)) HM.out).mono ?_
      rw [HV.out]
      rintro e w1 ⟨A1, c1, rfl, hc1, o1, e1⟩
      have z1 := e1.size
      have g1 := g0.keep (by omega) e1
      clear g0
      have a1 := o1
      clear o1
      have p1 := p0.trans (e1.mono (by omega))
      clear p0 e1
      go_wp2_with fail
      refine (specCheapestOf_any _ _ _ _ (g1.row.more (by omega)) (by omega) HM.out).mono ?_
      rw [HV.out]
      rintro e w2 ⟨A2, c2, rfl, hc2, o2, e2⟩
      have z2 := e2.size
      have g2 := g1.keep (by omega) e2
      clear g1
      have a2 := a1.keep (by omega) e2
      clear a1
      have s2 := o2
      clear o2
      have p2 := p1.trans (e2.mono (by omega))
      clear p1 e2
      go_wp2_with fail
      refine (equalRows_any _ _ _ _ _ _ _ (a2.row.more (by omega)) (s2.row.more (by omega)) (by omega) HRq.out).mono ?_
      rw [HEQ.out]
      rintro e w3 ⟨rfl, n3, hw3⟩
      have e3 : Below w2.heap.size w2 w3 := by rw [hw3]; exact drew_b _ _
      clear hw3
      have z3 := e3.size
      have g3 := g2.keep (by omega) e3
      clear g2
      have a3 := a2.keep (by omega) e3
      clear a2
      have s3 := s2.keep (by omega) e3
      clear s2
      have p3 := p2.trans (e3.mono (by omega))
      clear p2 e3
      clear s3
      go_wp2_with fail
      refine (impIsFair_any _ _ _ _ (a3.row.more (by omega)) HMq.out).mono ?_
      rw [HC1.out]
      rintro e w4 ⟨rfl, e4⟩
      have z4 := e4.size
      have g4 := g3.keep (by omega) e4
      clear g3
      have a4 := a3.keep (by omega) e4
      clear a3
      have p4 := p3.trans (e4.mono (by omega))
      clear p3 e4
      go_wp2_with fail
      refine (rowsAtMost_rs (a4.row.more (by omega)) (g4.row.more (by omega)) HAM.out.2.1 HAM.out.1 hn1 hn5 HAM.out.2.2).mono ?_
      rintro e w5 ⟨rfl, e5⟩
      have z5 := e5.size
      have g5 := g4.keep (by omega) e5
      clear g4
      have a5 := a4.keep (by omega) e5
      clear a4
      have p5 := p4.trans (e5.mono (by omega))
      clear p4 e5
      go_wp2_with fail
      refine (impCheapestOf_any _ _ _ _ (a5.row.more (by omega)) HMq.out).mono ?_
      rw [HC2.out]
      rintro e w6 ⟨A6, c6, rfl, hc6, o6, e6⟩
      have z6 := e6.size
      have g6 := g5.keep (by omega) e6
      clear g5
      have a6 := a5.keep (by omega) e6
      clear a5
      have b6 := o6
      clear o6
      have p6 := p5.trans (e6.mono (by omega))
      clear p5 e6
      go_wp2_with fail
      refine (equalRows_any _ _ _ _ _ _ _ (b6.row.more (by omega)) (a6.row.more (by omega)) (by omega) HRq.out).mono ?_
      rw [HEQ.out]
      rintro e w7 ⟨rfl, n7, hw7⟩
      have e7 : Below w6.heap.size w6 w7 := by rw [hw7]; exact drew_b _ _
      clear hw7
      have z7 := e7.size
      have g7 := g6.keep (by omega) e7
      clear g6
      have a7 := a6.keep (by omega) e7
      clear a6
      have b7 := b6.keep (by omega) e7
      clear b6
      have p7 := p6.trans (e7.mono (by omega))
      clear p6 e7
      clear b7
      go_wp2_with fail
      refine (impIsFair_any _ _ _ _ (g7.row.more (by omega)) HM.out).mono ?_
      rw [HT.out]
      rintro e w8 ⟨rfl, e8⟩
      have z8 := e8.size
      have g8 := g7.keep (by omega) e8
      clear g7
      have a8 := a7.keep (by omega) e8
      clear a7
      have p8 := p7.trans (e8.mono (by omega))
      clear p7 e8
      go_wp2_with fail
      refine (equalRows_any _ _ _ _ _ _ _ (a8.row.more (by omega)) (g8.row.more (by omega)) (by omega) HRq.out).mono ?_
      rw [HC3.out]
      rintro e w9 ⟨rfl, n9, hw9⟩
      have e9 : Below w8.heap.size w8 w9 := by rw [hw9]; exact drew_b _ _
      clear hw9
      have z9 := e9.size
      have g9 := g8.keep (by omega) e9
      clear g8
      have a9 := a8.keep (by omega) e9
      clear a8
      have p9 := p8.trans (e9.mono (by omega))
      clear p8 e9
      go_wp2_with fail
      refine (flipped_rs (g9.row.more (by omega)) HVR.out).mono ?_
      rw [HF.out]
      rintro e w10 ⟨A10, c10, rfl, hc10, o10, e10⟩
      have z10 := e10.size
      have g10 := g9.keep (by omega) e10
      clear g9
      have a10 := a9.keep (by omega) e10
      clear a9
      have f10 := o10
      clear o10
      have p10 := p9.trans (e10.mono (by omega))
      clear p9 e10
      clear g10
      go_wp2_with fail
      refine (impCheapestOf_any _ _ _ _ (f10.row.more (by omega)) HMf.out).mono ?_
      rw [HC4.out]
      rintro e w11 ⟨A11, c11, rfl, hc11, o11, e11⟩
      have z11 := e11.size
      have a11 := a10.keep (by omega) e11
      clear a10
      have f11 := f10.keep (by omega) e11
      clear f10
      have h11 := o11
      clear o11
      have p11 := p10.trans (e11.mono (by omega))
      clear p10 e11
      clear f11
      go_wp2_with fail
      refine (flipped_rs (a11.row.more (by omega)) HFV.out).mono ?_
      rw [HRQ.out]
      rintro e w12 ⟨A12, c12, rfl, hc12, o12, e12⟩
      have z12 := e12.size
      have a12 := a11.keep (by omega) e12
      clear a11
      have h12 := h11.keep (by omega) e12
      clear h11
      have k12 := o12
      clear o12
      have p12 := p11.trans (e12.mono (by omega))
      clear p11 e12
      clear a12
      go_wp2_with fail
      refine (equalRows_any _ _ _ _ _ _ _ (h12.row.more (by omega)) (k12.row.more (by omega)) (by omega) HRr.out).mono ?_
      rw [HER.out]
      rintro e w13 ⟨rfl, n13, hw13⟩
      have e13 : Below w12.heap.size w12 w13 := by rw [hw13]; exact drew_b _ _
      clear hw13
      have z13 := e13.size
      have h13 := h12.keep (by omega) e13
      clear h12
      have k13 := k12.keep (by omega) e13
      clear k12
      have p13 := p12.trans (e13.mono (by omega))
      clear p12 e13
      go_wp2_with fail
      go_ret
      exact ⟨rfl, HB0.out.trans (p13.mono z00)⟩
  · go_enter Try.func9, Try.ntmps9
    go_wp2
    go_ret
    exact ⟨rfl, Below.refl _ _⟩
end Go.Proofs.Ytmbpcilgjolaeaa
