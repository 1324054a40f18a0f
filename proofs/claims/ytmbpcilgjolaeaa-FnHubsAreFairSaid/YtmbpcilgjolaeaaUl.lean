/- The walk of the law FnHubsAreFair. No condition. -/
import Derived.Test.YtmbpcilgjolaeaaUk
import Derived.StillTailTactics
namespace Go.Proofs.Ytmbpcilgjolaeaa
open Go.RowKit
theorem len_no {q : List (List Int)} (h : q = []) : ((q.length : Int) == 0) = true := by subst h; rfl
/-- The costs over each hub, a list, or none. -/
theorem hubV_mat {rs : List (List Int)} (hv : ratesB rs = true) {m : Nat} (hm : m < rs.length) : hubV rs (m : Int) = mat rs.length (hubD (cellOf rs) m) := by
  have hb : hubB rs (m : Int) = true := by rw [hubB, hv, Bool.true_and]; exact inR_iff.2 (by omega)
  rw [hubV, hb]; rfl
theorem impHub_at {A : Option Addr} {c : Nat} {rs : List (List Int)} {w : World} (hr : Grid w 0 w.heap.size A rs) (hs : ∀ r ∈ rs, r.length ≤ 1000000000) (hv : ratesB rs = true) {m : Nat} (hm : m < rs.length) (x : Int) (hx : x = (m : Int)) :
    Calls Try.prog 32 #[.slice A rs.length c, .int .i64 x] w fun e w' => ∃ A' c', e = .returned (.slice A' rs.length c') ∧ rs.length ≤ c' ∧ MGrid w' w.heap.size w'.heap.size A' (mat rs.length (hubD (cellOf rs) m)) ∧ Below w.heap.size w w' := by
  subst hx
  have h := impHubCost_any A c rs (m : Int) w hr hs
  rw [hubV_mat hv hm] at h
  refine h.mono ?_
  rintro e w' ⟨A', c', h1, h2, h3, h4⟩
  rw [mat_len] at h1 h2
  exact ⟨A', c', h1, h2, h3, h4⟩
theorem MatAt.other {w : World} {base g o n : Nat} {b f c : Nat → Nat} {D : Nat → Nat → Int} (h : MatAt w base g o n b f c D) {p k : Nat} (hp : p < base) (v : Value) : MatAt (w.setCell ⟨p, k, none⟩ v) base g o n b f c D := by
  obtain ⟨⟨h1, h2, h3⟩, h4, h5⟩ := h
  have hsz : (w.setCell ⟨p, k, none⟩ v).heap.size = w.heap.size := by simp [World.setCell]
  refine ⟨⟨h1, by omega, fun j => by rw [World.frozen?_setCell]; exact h3 j⟩, fun i hi => ?_, h5⟩
  obtain ⟨g1, g2, g3, g4, g5, g6, g7⟩ := h4 i hi
  refine ⟨?_, g2, by omega, g4, g5, fun k' hk' => ?_, fun j => by rw [World.frozen?_setCell]; exact g7 j⟩
  · rw [World.cell?_setCell_other w _ _ _ (by intro e; injection e with e1; omega)]; exact g1
  · rw [World.cell?_setCell_other w _ _ _ (by intro e; injection e with e1; omega)]; exact g6 k' hk'
theorem cheap_at {A : Option Addr} {c : Nat} {rs : List (List Int)} {w : World} (hr : Grid w 0 w.heap.size A rs) (hs : ∀ r ∈ rs, r.length ≤ 1000000000) (hv : ratesB rs = true) :
    Calls Try.prog 21 #[.slice A rs.length c] w fun e w' => ∃ A' c', e = .returned (.slice A' rs.length c') ∧ rs.length ≤ c' ∧ MGrid w' w.heap.size w'.heap.size A' (mat rs.length (fw7 rs.length (cellOf rs))) ∧ Below w.heap.size w w' := by
  have h := impCheapestOf_any A c rs w hr hs
  rw [cheapV_yes hv] at h
  refine h.mono ?_
  rintro e w' ⟨A', c', h1, h2, h3, h4⟩
  rw [mat_len] at h1 h2
  exact ⟨A', c', h1, h2, h3, h4⟩
theorem equalMat {A B : Option Addr} {c d n : Nat} {D E : Nat → Nat → Int} {w : World} (hx : Grid w 0 w.heap.size A (mat n D)) (hy : Grid w 0 w.heap.size B (mat n E)) (hn : n ≤ 5) (he : mat n D = mat n E) :
    Calls Try.prog 36 #[.slice A n c, .slice B n d] w fun e w' => e = .returned (.bool true) ∧ Below w.heap.size w w' := by
  have h := equalRows_any A B c d (mat n D) (mat n E) w hx hy (by rw [mat_len]; omega) (fun i hi => by rw [mat_rows (List.getElem_mem hi)]; omega)
  rw [mat_len, mat_len, he, eqG_self] at h
  exact h.mono fun _ _ ⟨h1, k, h2⟩ => ⟨h1, by rw [h2]; exact drewBelow _ _⟩


set_option maxRecDepth 100000 in
set_option maxHeartbeats 8000000 in
theorem hubsAreFair_law (A : Option Addr) (c : Nat) (zs : List Int) (v0 : World) (hr : Own v0 0 v0.heap.size A (zs.map (Value.int .u8))) (hx : zs.length ≤ c ∧ c ≤ maxLen ∧ ∀ z ∈ zs, (Lit.int .u8 z).wf = true) :
    Calls Try.prog 13 #[.slice A zs.length c] v0 fun e w' => e = .returned (.bool true) ∧ Below v0.heap.size v0 w' := by
  have hl : zs.length ≤ 9223372036854775807 := by have := hx.1; have := hx.2.1; unfold maxLen at this; omega
  have HX := Lib.hid hx
  clear hx
  by_cases h20 : zs.length ≤ 1048576
  · go_enter Try.func13, Try.ntmps13
    go_wp2_with fail
    refine (drawHubCost_any _ _ _ _ hr HX.out).mono ?_
    rintro e w ⟨B, d, rs, hub, rfl, ⟨hu0, hu5⟩, ⟨h1, h6⟩, hdc, hsh, hrg, hb0⟩
    have HM := Lib.hid hsh
    have HB0 := Lib.hid hb0
    have z00 := hb0.size
    clear hsh hb0
    have hbq := hubV_bd rs hub
    cases hv : hubB rs hub with
    | false =>
      have HV := Lib.hid (hubV_no hv)
      clear hv hbq
      have g0 := hrg
      clear hrg
      have p0 := Below.refl w.heap.size w
      have z0 : w.heap.size ≤ w.heap.size := Nat.le_refl _
      go_wp2_with fail
      refine (impHubCost_any _ _ _ _ _ (g0.row.more (by omega)) HM.out).mono ?_
      rw [HV.out]
      rintro e w1 ⟨A1, c1, rfl, hc1, o1, e1⟩
      have z1 := e1.size
      have g1 := g0.keep (by omega) e1
      clear g0
      have a1 := o1
      clear o1
      have p1 := p0.trans (e1.mono (by omega))
      clear p0 e1
      go_wp2_with fail
      refine (specHubCost_any _ _ _ _ _ (g1.row.more (by omega)) (by omega) HM.out).mono ?_
      rw [HV.out]
      rintro e w2 ⟨A2, c2, rfl, hc2, o2, e2⟩
      have z2 := e2.size
      have g2 := g1.keep (by omega) e2
      clear g1
      have a2 := a1.keep (by omega) e2
      clear a1
      have s2 := o2
      clear o2
      have p2 := p1.trans (e2.mono (by omega))
      clear p1 e2
      have HEN := Lib.hid (eqG_self [])
      have HRN := Lib.hid (show ∀ (i : Nat) (hi : i < ([] : List (List Int)).length), ([] : List (List Int))[i].length ≤ 1000000000 from fun i hi => by simp at hi)
      go_wp2_with fail
      refine (equalRows_any _ _ _ _ [] [] _ (a2.row.more (by omega)) (s2.row.more (by omega)) (by simp) HRN.out).mono ?_
      rw [HEN.out]
      rintro e w3 ⟨rfl, n3, hw3⟩
      have e3 : Below w2.heap.size w2 w3 := by rw [hw3]; exact drew_b _ _
      clear hw3
      have z3 := e3.size
      have g3 := g2.keep (by omega) e3
      clear g2
      have a3 := a2.keep (by omega) e3
      clear a2
      have s3 := s2.keep (by omega) e3
      clear s2
      have p3 := p2.trans (e3.mono (by omega))
      clear p2 e3
      clear s3 a3
      go_wp2_with fail
      refine (impHubCost_any _ _ _ _ _ (g3.row.more (by omega)) HM.out).mono ?_
      rw [HV.out]
      rintro e w4 ⟨A4, c4, rfl, hc4, o4, e4⟩
      have z4 := e4.size
      have g4 := g3.keep (by omega) e4
      clear g3
      have a4 := o4
      clear o4
      have p4 := p3.trans (e4.mono (by omega))
      clear p3 e4
      clear a4 g4
      go_wp2_with fail
      go_ret
      exact ⟨rfl, HB0.out.trans (p4.mono z00)⟩
    | true =>
      obtain ⟨e1, e2, m, e3, e4, e5⟩ := hubB_parts hv
      have hn1 := e2.n1
      have hn5 := e2.n5
      have hrv : ratesB rs = true := by rw [e1]; exact ratesB_mat e2
      obtain ⟨q, hq⟩ : ∃ q, hubV rs hub = q := ⟨_, rfl⟩
      rw [hq] at hbq e5
      have hql : (q.length : Int) = rs.length := by rw [e5, mat_len]
      have HRq := Lib.hid (show ∀ (i : Nat) (hi : i < q.length), q[i].length ≤ 1000000000 from fun i hi => by have := hbq.2 _ (List.getElem_mem hi); omega)
      have HMq := Lib.hid (show ∀ y ∈ q, y.length ≤ 1000000000 from fun y hy => by have := hbq.2 y hy; omega)
      have hlq := hbq.1
      have hq0 : ((q.length : Int) == 0) = false := beq_eq_false_iff_ne.2 (by omega)
      have HV := Lib.hid hq
      have HEQ := Lib.hid (eqG_self q)
      have HE1 := Lib.hid e1
      have HRM := Lib.hid e2
      have HRV := Lib.hid hrv
      clear e1 e2 e3 e4 e5 hrv hq hbq hv hql
      have g0 := hrg
      clear hrg
      have p0 := Below.refl w.heap.size w
      have z0 : w.heap.size ≤ w.heap.size := Nat.le_refl _
      go_wp2_with fail
      refine (impHubCost_any _ _ _ _ _ (g0.row.more (by omega)) HM.out).mono ?_
      rw [HV.out]
      rintro e w1 ⟨A1, c1, rfl, hc1, o1, e1⟩
      have z1 := e1.size
      have g1 := g0.keep (by omega) e1
      clear g0
      have a1 := o1
      clear o1
      have p1 := p0.trans (e1.mono (by omega))
      clear p0 e1
      go_wp2_with fail
      refine (specHubCost_any _ _ _ _ _ (g1.row.more (by omega)) (by omega) HM.out).mono ?_
      rw [HV.out]
      rintro e w2 ⟨A2, c2, rfl, hc2, o2, e2⟩
      have z2 := e2.size
      have g2 := g1.keep (by omega) e2
      clear g1
      have a2 := a1.keep (by omega) e2
      clear a1
      have s2 := o2
      clear o2
      have p2 := p1.trans (e2.mono (by omega))
      clear p1 e2
      go_wp2_with fail
      refine (equalRows_any _ _ _ _ _ _ _ (a2.row.more (by omega)) (s2.row.more (by omega)) (by omega) HRq.out).mono ?_
      rw [HEQ.out]
      rintro e w3 ⟨rfl, n3, hw3⟩
      have e3 : Below w2.heap.size w2 w3 := by rw [hw3]; exact drew_b _ _
      clear hw3
      have z3 := e3.size
      have g3 := g2.keep (by omega) e3
      clear g2
      have a3 := a2.keep (by omega) e3
      clear a2
      have s3 := s2.keep (by omega) e3
      clear s2
      have p3 := p2.trans (e3.mono (by omega))
      clear p2 e3
      clear s3 a3
      go_wp2_with fail
      refine (impHubCost_any _ _ _ _ _ (g3.row.more (by omega)) HM.out).mono ?_
      rw [HV.out]
      rintro e w4 ⟨A4, c4, rfl, hc4, o4, e4⟩
      have z4 := e4.size
      have g4 := g3.keep (by omega) e4
      clear g3
      have a4 := o4
      clear o4
      have p4 := p3.trans (e4.mono (by omega))
      clear p3 e4
      clear a4
      clear hlq HRq HMq HEQ HV
      obtain ⟨N, hN⟩ : ∃ N, N = rs.length := ⟨_, rfl⟩
      have HN := Lib.hid hN
      rw [← hN] at hn1 hn5
      have ha0 := impHub_at (c := d) (g4.row.more (by omega)) HM.out HRV.out (show 0 < rs.length by omega) 0 rfl
      rw [← hN] at ha0 ⊢
      have HA0 := Lib.hid ha0
      clear ha0 hN
      go_wp2_with fail
      refine HA0.out.mono ?_
      rintro e w9 ⟨A9, c9, rfl, hc9, hm9, e9⟩
      obtain ⟨D, hD⟩ : ∃ D, cellOf rs = D := ⟨_, rfl⟩
      rw [hD] at hm9
      have HD := Lib.hid hD
      have HRM2 := Lib.hid (show RM N D by rw [HN.out, ← hD]; exact HRM.out)
      obtain ⟨base, hbase⟩ : ∃ base, w4.heap.size = base := ⟨_, rfl⟩
      rw [hbase] at hm9 e9
      obtain ⟨gl, ol, rfl⟩ : ∃ gl ol, A9 = some ⟨gl, ol, none⟩ := by
        obtain ⟨hs9, k1, k2, _⟩ := hm9
        obtain ⟨b9, o9, k3, _⟩ := k1.open (by rw [k2.1, mat_len]; omega)
        exact ⟨b9, o9, k3⟩
      obtain ⟨b, f, cc, hmat⟩ := MatAt.of hm9 (by omega)
      have HMAT := Lib.hid hmat
      have HBW := Lib.hid (p4.trans (e9.mono (by omega)))
      have HBL := Lib.hid e9
      have HG9 := Lib.hid (show Grid w4 0 base B rs by rw [← hbase]; exact (g4.row.more (by omega)))
      have z9 := e9.size
      have hb9 : base ≤ w9.heap.size := by omega
      have hzb : w.heap.size ≤ base := by omega
      clear hm9 e9 hmat hD hbase p4 HA0
      clear g4
      go_wp2_with fail
      go_loopw [6] (fun v wr => ∃ h : Nat, h + 1 ≤ N ∧ v = .int .i64 ((h : Int) + 1) ∧ Hid (MatAt wr base gl ol N b f cc (minH D h)) ∧ Below base w9 wr) (fun v _ => N - (intOf v).toNat)
      case atStart => exact ⟨0, by omega, by simp, HMAT, Below.refl _ _⟩
      case round =>
        obtain ⟨h, hh, rfl, HM1, hb1⟩ := hrel
        clear HMAT
        have HB1 := Lib.hid hb1
        have hbz1 := hb1.size
        have HGR := Lib.hid (show Grid wr 0 wr.heap.size B rs from ((HG9.out.below (HBL.out.trans hb1)).more (by omega)))
        clear hb1
        by_cases hlh : h + 1 < N
        · have hdl : decide ((h : Int) + 1 < (N : Int)) = true := decide_eq_true (by omega)
          have ha1 := impHub_at (c := d) HGR.out HM.out HRV.out (m := h + 1) (by rw [← HN.out]; omega) ((h : Int) + 1) (by omega)
          rw [← HN.out, HD.out] at ha1
          have HA1 := Lib.hid ha1
          clear ha1
          go_wp2_with fail
          refine HA1.out.mono ?_
          rintro e wb ⟨Ar, cr, rfl, hcr, hmr, er⟩
          obtain ⟨F, hF⟩ : ∃ F, minH D h = F := ⟨_, rfl⟩
          obtain ⟨G, hG⟩ : ∃ G, hubD D (h + 1) = G := ⟨_, rfl⟩
          have HFB := Lib.hid (show Bd N F by rw [← hF]; exact minH_bd HRM2.out (by omega))
          have HGB := Lib.hid (show Bd N G by rw [← hG]; exact hubD_bd HRM2.out (by omega))
          have HNX := Lib.hid (show minH D (h + 1) = fun i k => minI (F i k) (G i k) by rw [← hF, ← hG]; rfl)
          rw [hF] at HM1
          rw [hG] at hmr
          obtain ⟨gR, oR, rfl⟩ : ∃ gR oR, Ar = some ⟨gR, oR, none⟩ := by
            obtain ⟨hs9, k1, k2, _⟩ := hmr
            obtain ⟨b9, o9, k3, _⟩ := k1.open (by rw [k2.1, mat_len]; omega)
            exact ⟨b9, o9, k3⟩
          obtain ⟨bR, fR, cR, hmatR⟩ := MatAt.of hmr (by omega)
          obtain ⟨bz, hbz⟩ : ∃ bz, wr.heap.size = bz := ⟨_, rfl⟩
          rw [hbz] at hmatR
          have HLT := Lib.hid (show ∀ i, i < N → b i < bz from fun i hi => by rw [← hbz]; exact (HM1.out.2.1 i hi).2.2.1)
          have HM2 := Lib.hid ((HM1.out.keep er).congr (E := partH F G 0 0) (fun i k _ _ => partH_none i k))
          have HR2 := Lib.hid hmatR
          have HB2 := Lib.hid (HB1.out.trans (er.mono (by omega)))
          have hzr := er.size
          clear hmr hmatR er hF hG hbz HA1 HM1 HB1 HGR hdl
          go_wp2_with fail
          go_loopw [8] (fun v wr => ∃ i : Nat, i ≤ N ∧ v = .int .i64 i ∧ Hid (MatAt wr base gl ol N b f cc (partH F G i 0)) ∧ Hid (MatAt wr bz gR oR N bR fR cR G) ∧ Below base w9 wr) (fun v _ => N - (intOf v).toNat)
          case atStart => exact ⟨0, by omega, rfl, HM2, HR2, HB2.out⟩
          case round =>
            clear HM2 HR2 HB2
            obtain ⟨i, hi, rfl, HM2, HR2, hb2⟩ := hrel
            have HB2 := Lib.hid hb2
            clear hb2
            by_cases hli : i < N
            · go_wp2_with fail
              go_loopw [9] (fun v wr => ∃ k : Nat, k ≤ N ∧ v = .int .i64 k ∧ Hid (MatAt wr base gl ol N b f cc (partH F G i k)) ∧ Hid (MatAt wr bz gR oR N bR fR cR G) ∧ Below base w9 wr) (fun v _ => N - (intOf v).toNat)
              case atStart => exact ⟨0, by omega, rfl, HM2, HR2, HB2.out⟩
              case round =>
                clear HM2 HR2 HB2
                obtain ⟨k, hk, rfl, HM2, HR2, hb2⟩ := hrel
                have HB2 := Lib.hid hb2
                clear hb2
                by_cases hlk : k < N
                · have hbzz : base ≤ wr.heap.size := by have := HM2.out.1.1; have := HM2.out.1.2.1; omega
                  obtain ⟨_, hall, _⟩ := HM2.out
                  obtain ⟨x1, x2, x3, x4, x5, x6, x7⟩ := hall i hli
                  obtain ⟨_, hall2, _⟩ := HR2.out
                  obtain ⟨y1, y2, y3, y4, y5, y6, y7⟩ := hall2 i hli
                  have x8 := x6 k hlk
                  have xf := x7 (f i + k)
                  have y8 := y6 k hlk
                  rw [partH_here] at x8
                  have HPU := Lib.hid (fun a b => partH_put (F := F) (G := G) i k a b)
                  have hblt := HLT.out i hli
                  obtain ⟨p, hp⟩ : ∃ p, F i k = p := ⟨_, rfl⟩
                  obtain ⟨q, hq⟩ : ∃ q, G i k = q := ⟨_, rfl⟩
                  rw [hp] at x8 HPU
                  rw [hq] at y8 HPU
                  have i1 : (0 : Int) ≤ i := by omega
                  have i2 : (i : Int) < N := by omega
                  have i5 : (0 : Int) ≤ k := by omega
                  have i6 : (k : Int) < N := by omega
                  have HX2 := Lib.hid x2
                  clear hall hall2 x4 x5 x6 x7 y2 y4 y5 y6 y7 hp hq x2
                  by_cases hs0 : q < p
                  · have hmin : min p q = q := by omega
                    have hmi2 : min q p = q := by omega
                    have hdl : decide (q < p) = true := by simp; omega
                    have HMV := Lib.hid (show minI p q = q by unfold minI; rw [if_pos hs0])
                    go_wp2_with fail
                    go_still_tail 21, (by kernel_rfl)
                    change wpList _ _ _ _ _ wr.drew
                    obtain ⟨W1, hW1⟩ : ∃ W1, wr.drew = W1 := ⟨_, rfl⟩
                    have hb1 : Below wr.heap.size wr W1 := by rw [← hW1]; exact below_drewT _
                    have n1 := cell_keep hb1 x3 x8
                    have n2 : W1.frozen? ⟨b i, f i + k, none⟩ = false := by rw [hb1.frozen (p := ⟨b i, f i + k, none⟩) x3]; exact xf
                    have HFIN := Lib.hid (And.intro ((HM2.out.keep hb1).put (v := q) hli hlk) (And.intro ((HR2.out.keep hb1).other (k := f i + k) hblt (.int .i64 q)) ((HB2.out.trans (hb1.mono hbzz)).setCell (p := ⟨b i, f i + k, none⟩) HX2.out (.int .i64 q))))
                    rw [hW1]
                    clear hW1 hb1 x1 x3 x8 xf y1 y3 y8 hmin hmi2 hdl
                    go_wp2_with fail
                    go_roundw
                    case rel => exact ⟨k + 1, by omega, by go_num, Lib.hid (HFIN.out.1.congr fun a b _ _ => by rw [HPU.out a b, HMV.out]), Lib.hid HFIN.out.2.1, HFIN.out.2.2⟩
                    case measure => simp [intOf]; omega
                  · have hmin : min p q = p := by omega
                    have hmi2 : min q p = p := by omega
                    have hdl : decide (q < p) = false := by simp; omega
                    have HMV := Lib.hid (show minI p q = p by unfold minI; rw [if_neg hs0])
                    go_wp2_with fail
                    go_still_tail 21, (by kernel_rfl)
                    change wpList _ _ _ _ _ wr.drew
                    obtain ⟨W1, hW1⟩ : ∃ W1, wr.drew = W1 := ⟨_, rfl⟩
                    have hb1 : Below wr.heap.size wr W1 := by rw [← hW1]; exact below_drewT _
                    have n1 := cell_keep hb1 x3 x8
                    have n2 : W1.frozen? ⟨b i, f i + k, none⟩ = false := by rw [hb1.frozen (p := ⟨b i, f i + k, none⟩) x3]; exact xf
                    have HFIN := Lib.hid (And.intro ((HM2.out.keep hb1).put (v := p) hli hlk) (And.intro ((HR2.out.keep hb1).other (k := f i + k) hblt (.int .i64 p)) ((HB2.out.trans (hb1.mono hbzz)).setCell (p := ⟨b i, f i + k, none⟩) HX2.out (.int .i64 p))))
                    rw [hW1]
                    clear hW1 hb1 x1 x3 x8 xf y1 y3 y8 hmin hmi2 hdl
                    go_wp2_with fail
                    go_roundw
                    case rel => exact ⟨k + 1, by omega, by go_num, Lib.hid (HFIN.out.1.congr fun a b _ _ => by rw [HPU.out a b, HMV.out]), Lib.hid HFIN.out.2.1, HFIN.out.2.2⟩
                    case measure => simp [intOf]; omega
                · have hkk : N = k := by omega
                  subst hkk
                  have HF := Lib.hid (HM2.out.congr (E := partH F G (i + 1) 0) (fun a b _ hb => partH_row i a b hb))
                  go_wp2_with fail
                  go_roundw
                  case rel => exact ⟨i + 1, by omega, by go_num, Lib.hid HF.out, HR2, HB2.out⟩
                  case measure => simp [intOf]; omega
            · have hii : N = i := by omega
              subst hii
              have HF := Lib.hid (HM2.out.congr (E := minH D (h + 1)) (fun a b ha _ => by rw [HNX.out]; exact partH_all a b ha))
              go_wp2_with fail
              go_roundw
              case rel => exact ⟨h + 1, by omega, by go_num, Lib.hid HF.out, HB2.out⟩
              case measure => simp [intOf]; omega
        · have hhN : N = h + 1 := by omega
          have hdl : decide ((h : Int) + 1 < (N : Int)) = false := decide_eq_false (by omega)
          have HCH := Lib.hid (show Calls Try.prog 21 #[.slice B N d] wr fun e w' => ∃ A' c', e = .returned (.slice A' N c') ∧ N ≤ c' ∧ MGrid w' wr.heap.size w'.heap.size A' (mat N (fw7 N D)) ∧ Below wr.heap.size wr w' by have := cheap_at (c := d) HGR.out HM.out HRV.out; rwa [← HN.out, HD.out] at this)
          have HLG := Lib.hid HM1.out.mgrid
          by_cases h3 : 3 < N
          · have hd3 : decide ((3 : Int) < (N : Int)) = true := decide_eq_true (by omega)
            have HAM := Lib.hid (minH_more HRM2.out hhN)
            clear hhN
            go_wp2_with fail
            refine HCH.out.mono ?_
            rintro e wb ⟨Ac, ccc, rfl, hcc, hmc, ec⟩
            have HMC := Lib.hid hmc
            have HEC := Lib.hid ec
            have hzc := ec.size
            clear hmc ec
            go_wp2_with fail
            refine (rowsAtMost_yes _ _ _ _ N _ _ _ HMC.out.row (HLG.out.keep (Nat.le_refl _) HEC.out |>.row.more (by omega)) hn1 hn5 HAM.out).mono ?_
            rintro e we ⟨rfl, ee⟩
            have HEE := Lib.hid ee
            clear ee
            go_wp2_with fail
            go_ret
            exact ⟨rfl, HB0.out.trans ((HBW.out.trans ((HB1.out.trans ((HEC.out.trans (HEE.out.mono (by omega))).mono (by omega))).mono (by omega))).mono z00)⟩
          · have hd3 : decide ((3 : Int) < (N : Int)) = false := decide_eq_false (by omega)
            have HEQ := Lib.hid (show mat N (fw7 N D) = mat N (minH D h) from mat_congr fun i k hi hk => minH_three HRM2.out hhN (by omega) hi hk)
            clear hhN
            go_wp2_with fail
            refine HCH.out.mono ?_
            rintro e wb ⟨Ac, ccc, rfl, hcc, hmc, ec⟩
            have HMC := Lib.hid hmc
            have HEC := Lib.hid ec
            have hzc := ec.size
            clear hmc ec
            go_wp2_with fail
            refine (equalMat HMC.out.row (HLG.out.keep (Nat.le_refl _) HEC.out |>.row.more (by omega)) hn5 HEQ.out).mono ?_
            rintro e we ⟨rfl, ee⟩
            have HEE := Lib.hid ee
            clear ee
            go_wp2_with fail
            go_ret
            exact ⟨rfl, HB0.out.trans ((HBW.out.trans ((HB1.out.trans ((HEC.out.trans (HEE.out.mono (by omega))).mono (by omega))).mono (by omega))).mono z00)⟩
  · go_enter Try.func13, Try.ntmps13
    go_wp2
    go_ret
    exact ⟨rfl, Below.refl _ _⟩
end Go.Proofs.Ytmbpcilgjolaeaa
