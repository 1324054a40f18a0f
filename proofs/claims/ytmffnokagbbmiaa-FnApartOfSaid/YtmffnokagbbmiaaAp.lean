/- The walk of the law FnApartOf. No condition. -/
import Derived.Test.YtmffnokagbbmiaaN16
import Derived.Test.YtmffnokagbbmiaaN19
import Derived.Test.YtmffnokagbbmiaaFl
import Derived.Test.YtmffnokagbbmiaaEqR
import Derived.Test.YtmffnokagbbmiaaEx
namespace Go.Proofs.Ytmffnokagbbmiaa
open Go.RowKit
theorem town_D {n : Nat} {rs : List (List Int)} {D : Nat → Nat → Int} (h : townB (n : Int) rs = true) (hD : IsDist n (rs.map st) D) :
    (∀ i k, i < n → k < n → 0 ≤ D i k ∧ D i k ≤ 140) ∧ Fair n D ∧ (∀ i, i < n → D i i = 0) ∧ (∀ i k, i < n → k < n → D k i = D i k) ∧ ∀ a b l : Nat, (a, b, l) ∈ rs.map st → a < n → b < n → D a b ≤ (l : Int) := by
  obtain ⟨m, hm, h1, h5, h7, hok, hre⟩ := townB_parts h
  have hnm : n = m := by omega
  subst hnm
  have hr : ∀ i k, i < n → k < n → 0 ≤ D i k ∧ D i k ≤ 140 := fun i k hi hk => by
    obtain ⟨w, hw, hb⟩ := town_short (street_lt hok) (street_len hok) (by rw [List.length_map]; exact h7) hre hi hk
    have := (hD i k hi hk).2.2 w hw
    omega
  have hw : ∀ i k, i < n → k < n → ∃ w : Nat, D i k = (w : Int) ∧ Wk (rs.map st) n i k w := fun i k hi hk => (hD i k hi hk).2.1 (hr i k hi hk).1
  refine ⟨hr, fun i j k hi hj hk => ?_, fun i hi => ?_, fun i k hi hk => ?_, fun a b l hm ha hb => ?_⟩
  · obtain ⟨x, hx, g1⟩ := hw i j hi hj
    obtain ⟨y, hy, g2⟩ := hw j k hj hk
    have := ((hD i k hi hk).2.2 _ (Wk.cat hj g1 g2)).2
    push_cast at this
    omega
  · have := ((hD i i hi hi).2.2 0 (Wk.nil _ _ _)).2
    have := (hr i i hi hi).1
    omega
  · obtain ⟨x, hx, g1⟩ := hw i k hi hk
    obtain ⟨y, hy, g2⟩ := hw k i hk hi
    have a1 := ((hD k i hk hi).2.2 _ g1.turn).2
    have a2 := ((hD i k hi hk).2.2 _ g2.turn).2
    omega
  · exact ((hD a b ha hb).2.2 l (Wk.to hm)).2
theorem drew_b (w : World) (n : Nat) : Below w.heap.size w (w.drewN n) := drewBelow w n
theorem equalMat {A B : Option Addr} {c d n : Nat} {D E : Nat → Nat → Int} {w : World} (hx : Grid w 0 w.heap.size A (mat n D)) (hy : Grid w 0 w.heap.size B (mat n E)) (hn : n ≤ 5) (he : mat n D = mat n E) :
    Calls Try.prog 14 #[.slice A n c, .slice B n d] w fun e w' => e = .returned (.bool true) ∧ Below w.heap.size w w' := by
  have h := equalRows_any A B c d (mat n D) (mat n E) w hx hy (by rw [mat_len]; omega) (fun i hi => by rw [mat_rows (List.getElem_mem hi)]; omega)
  rw [mat_len, mat_len, he, eqG_self] at h
  exact h.mono fun _ _ ⟨h1, k, h2⟩ => ⟨h1, by rw [h2]; exact drewBelow _ _⟩


set_option maxRecDepth 100000 in
set_option maxHeartbeats 8000000 in
theorem apartOf_law (A : Option Addr) (c : Nat) (zs : List Int) (v0 : World) (hr : Own v0 0 v0.heap.size A (zs.map (Value.int .u8))) (hx : zs.length ≤ c ∧ c ≤ maxLen ∧ ∀ z ∈ zs, (Lit.int .u8 z).wf = true) :
    Calls Try.prog 4 #[.slice A zs.length c] v0 fun e w' => e = .returned (.bool true) ∧ Below v0.heap.size v0 w' := by
  have hl : zs.length ≤ 9223372036854775807 := by have := hx.1; have := hx.2.1; unfold maxLen at this; omega
  have HX := Lib.hid hx
  clear hx
  by_cases h20 : zs.length ≤ 1048576
  · go_enter Try.func4, Try.ntmps4
    go_wp2_with fail
    refine (DrawApartOf_any _ _ _ _ hr HX.out).mono ?_
    rintro e w ⟨B, d, rs, n, rfl, hn1, hn6, h9, hdc, hln, hrg, hb0⟩
    have HM := Lib.hid (show ∀ r ∈ rs, r.length ≤ 1000000000 from fun r h => by have := hln r h; omega)
    have HB0 := Lib.hid hb0
    have z00 := hb0.size
    clear hln hb0
    obtain ⟨q, hq⟩ := exists_apart (n : Int) rs
    have hbq := hq.bd
    cases hv : townB (n : Int) rs with
    | false =>
      have hqn := hq.no hv
      subst hqn
      have HV := Lib.hid hq
      clear hv hbq hq
      have g0 := hrg
      clear hrg
      have p0 := Below.refl w.heap.size w
      have z0 : w.heap.size ≤ w.heap.size := Nat.le_refl _
      go_wp2_with fail
      refine (impApartOf_any _ _ _ _ _ (g0.row.more (by omega)) HM.out HV.out).mono ?_
      rintro e w1 ⟨A1, c1, rfl, hc1, o1, e1⟩
      have z1 := e1.size
      have g1 := g0.keep (by omega) e1
      clear g0
      have a1 := o1
      clear o1
      have p1 := p0.trans (e1.mono (by omega))
      clear p0 e1
      go_wp2_with fail
      refine (specApartOf_any _ _ _ _ _ (g1.row.more (by omega)) (by omega) HM.out HV.out).mono ?_
      rintro e w2 ⟨A2, c2, rfl, hc2, o2, e2⟩
      have z2 := e2.size
      have g2 := g1.keep (by omega) e2
      clear g1
      have a2 := a1.keep (by omega) e2
      clear a1
      have s2 := o2
      clear o2
      have p2 := p1.trans (e2.mono (by omega))
      clear p1 e2
      have HEN := Lib.hid (eqG_self [])
      have HRN := Lib.hid (show ∀ (i : Nat) (hi : i < ([] : List (List Int)).length), ([] : List (List Int))[i].length ≤ 1000000000 from fun i hi => by simp at hi)
      go_wp2_with fail
      refine (equalRows_any _ _ _ _ [] [] _ (a2.row.more (by omega)) (s2.row.more (by omega)) (by simp) HRN.out).mono ?_
      rw [HEN.out]
      rintro e w3 ⟨rfl, n3, hw3⟩
      have e3 : Below w2.heap.size w2 w3 := by rw [hw3]; exact drew_b _ _
      clear hw3
      have z3 := e3.size
      have g3 := g2.keep (by omega) e3
      clear g2
      have a3 := a2.keep (by omega) e3
      clear a2
      have s3 := s2.keep (by omega) e3
      clear s2
      have p3 := p2.trans (e3.mono (by omega))
      clear p2 e3
      clear s3
      go_wp2_with fail
      refine (specApartOf_any _ _ _ _ _ (g3.row.more (by omega)) (by omega) HM.out HV.out).mono ?_
      rintro e w4 ⟨A4, c4, rfl, hc4, o4, e4⟩
      have z4 := e4.size
      have g4 := g3.keep (by omega) e4
      clear g3
      have a4 := a3.keep (by omega) e4
      clear a3
      have s4 := o4
      clear o4
      have p4 := p3.trans (e4.mono (by omega))
      clear p3 e4
      clear g4
      go_wp2_with fail
      refine (equalRows_any _ _ _ _ [] [] _ (a4.row.more (by omega)) (s4.row.more (by omega)) (by simp) HRN.out).mono ?_
      rw [HEN.out]
      rintro e w5 ⟨rfl, n5, hw5⟩
      have e5 : Below w4.heap.size w4 w5 := by rw [hw5]; exact drew_b _ _
      clear hw5
      have z5 := e5.size
      have a5 := a4.keep (by omega) e5
      clear a4
      have s5 := s4.keep (by omega) e5
      clear s4
      have p5 := p4.trans (e5.mono (by omega))
      clear p4 e5
      go_wp2_with fail
      go_ret
      exact ⟨rfl, HB0.out.trans (p5.mono z00)⟩
    | true =>
      obtain ⟨D, hD⟩ := exists_dist n (rs.map st)
      have hqm := hq.yes hv hD
      have hTD := town_D hv hD
      have hnn5 : n ≤ 5 := by obtain ⟨m, hm, _, h5, _⟩ := townB_parts hv; omega
      have hok : rs.all (okS n) = true := by obtain ⟨m, hm, _, _, _, hok, _⟩ := townB_parts hv; exact hm ▸ hok
      have HRq := Lib.hid (show ∀ (i : Nat) (hi : i < q.length), q[i].length ≤ 1000000000 from fun i hi => by have := hbq.2 _ (List.getElem_mem hi); omega)
      have HMq := Lib.hid (show ∀ y ∈ q, y.length ≤ 1000000000 from fun y hy => by have := hbq.2 y hy; omega)
      have hlq := hbq.1
      have hq0 : ((q.length : Int) == 0) = false := by rw [hqm, mat_len]; exact beq_eq_false_iff_ne.2 (by omega)
      have HV := Lib.hid hq
      have HEQ := Lib.hid (eqG_self q)
      have HQM := Lib.hid hqm
      have HTD := Lib.hid hTD
      have HOK := Lib.hid hok
      clear hv hbq hq hqm hTD hD hok
      have g0 := hrg
      clear hrg
      have p0 := Below.refl w.heap.size w
      have z0 : w.heap.size ≤ w.heap.size := Nat.le_refl _
      go_wp2_with fail
      refine (impApartOf_any _ _ _ _ _ (g0.row.more (by omega)) HM.out HV.out).mono ?_
      rintro e w1 ⟨A1, c1, rfl, hc1, o1, e1⟩
      have z1 := e1.size
      have g1 := g0.keep (by omega) e1
      clear g0
      have a1 := o1
      clear o1
      have p1 := p0.trans (e1.mono (by omega))
      clear p0 e1
      go_wp2_with fail
      refine (specApartOf_any _ _ _ _ _ (g1.row.more (by omega)) (by omega) HM.out HV.out).mono ?_
      rintro e w2 ⟨A2, c2, rfl, hc2, o2, e2⟩
      have z2 := e2.size
      have g2 := g1.keep (by omega) e2
      clear g1
      have a2 := a1.keep (by omega) e2
      clear a1
      have s2 := o2
      clear o2
      have p2 := p1.trans (e2.mono (by omega))
      clear p1 e2
      go_wp2_with fail
      refine (equalRows_any _ _ _ _ _ _ _ (a2.row.more (by omega)) (s2.row.more (by omega)) (by omega) HRq.out).mono ?_
      rw [HEQ.out]
      rintro e w3 ⟨rfl, n3, hw3⟩
      have e3 : Below w2.heap.size w2 w3 := by rw [hw3]; exact drew_b _ _
      clear hw3
      have z3 := e3.size
      have g3 := g2.keep (by omega) e3
      clear g2
      have a3 := a2.keep (by omega) e3
      clear a2
      have s3 := s2.keep (by omega) e3
      clear s2
      have p3 := p2.trans (e3.mono (by omega))
      clear p2 e3
      clear s3
      have hG3 : Grid w3 0 w3.heap.size B rs := (g3.row.more (by omega))
      have hA3 : Grid w3 0 w3.heap.size A1 (mat n D) := by rw [← HQM.out]; exact (a3.row.more (by omega))
      have hqlen : q.length = n := by rw [HQM.out, mat_len]
      rw [hqlen] at hq0 ⊢
      clear g3 a3
      obtain ⟨wS, hwS⟩ : ∃ wS, wS = w3 := ⟨_, rfl⟩
      rw [← hwS] at hG3 hA3 p3 ⊢
      have HG := Lib.hid hG3
      have HA := Lib.hid hA3
      have HP := Lib.hid p3
      have hps := p3.size
      obtain ⟨bO, oO, pO, qO, cO, hAO, hsq⟩ := hA3.sq (by omega)
      have HSQ := Lib.hid hsq
      subst hAO
      clear hwS p3 hG3 hA3 hsq hlq hqlen
      go_wp2_with fail
      go_loopw [6] (fun v wr => ∃ j : Nat, j ≤ rs.length ∧ v = .int .i64 (j : Int) ∧ ∃ m, wr = wS.drewN m) (fun v _ => rs.length - (intOf v).toNat)
      case atStart => exact ⟨0, by omega, rfl, 0, rfl⟩
      case round =>
        obtain ⟨j, hj, rfl, hdr⟩ := hrel
        clear hq0
        have HDR := Lib.hid hdr
        have hbw : Below wS.heap.size wS wr := by obtain ⟨m, rfl⟩ := hdr; exact drewBelow _ _
        by_cases hlj : j < rs.length
        · obtain ⟨x, y, l, bA, oA, b', o', c1, hej, hst, ⟨hx, hy, hl1, hl2⟩, hBB, g0, g1, g2, g3, hbA, hb'⟩ := (HG.out.below hbw).street HOK.out hlj
          subst hBB
          obtain ⟨_, hall⟩ := HSQ.out.below hbw
          obtain ⟨x1, _, x3⟩ := hall x hx
          have x4 := x3 y hy
          have hle := HTD.out.2.2.2.2 x y l (by rw [← hst]; exact List.mem_map.2 ⟨_, List.getElem_mem hlj, rfl⟩) hx hy
          obtain ⟨u, hu⟩ : ∃ u, D x y = u := ⟨_, rfl⟩
          rw [hu] at x4 hle
          have hdl : decide ((l : Int) < u) = false := decide_eq_false (by omega)
          have j1 : (0 : Int) ≤ j := by omega
          have j2 : (j : Int) < rs.length := by omega
          have j5 : (0 : Int) ≤ x := by omega
          have j6 : (x : Int) < n := by omega
          have j7 : (0 : Int) ≤ y := by omega
          have j8 : (y : Int) < n := by omega
          clear hall x3 hu hle hej hst hdr hbw
          go_wp2_with fail
          go_quiet (fail)
          go_wp2_with fail
          go_roundw
          case rel => exact ⟨j + 1, by omega, by go_num, by obtain ⟨m, hm⟩ := HDR.out; rw [hm]; exact ⟨_, World.drewN_drewN ..⟩⟩
          case measure => simp [intOf]; omega
        · clear hdr hbw
          go_wp2_with fail
          go_loopw [7] (fun v wr => ∃ i : Nat, i ≤ n ∧ v = .int .i64 (i : Int) ∧ ∃ m, wr = wS.drewN m) (fun v _ => n - (intOf v).toNat)
          case atStart => exact ⟨0, by omega, rfl, HDR.out⟩
          case round =>
            clear HDR
            obtain ⟨i, hi, rfl, hdr⟩ := hrel
            have HDR := Lib.hid hdr
            clear hdr
            by_cases hli : i < n
            · go_wp2_with fail
              go_loopw [8] (fun v wr => ∃ k : Nat, k ≤ n ∧ v = .int .i64 (k : Int) ∧ ∃ m, wr = wS.drewN m) (fun v _ => n - (intOf v).toNat)
              case atStart => exact ⟨0, by omega, rfl, HDR.out⟩
              case round =>
                clear HDR
                obtain ⟨k, hk, rfl, hdr⟩ := hrel
                have HDR := Lib.hid hdr
                clear hdr
                by_cases hlk : k < n
                · go_wp2_with fail
                  go_loopw [9] (fun v wr => ∃ m : Nat, m ≤ n ∧ v = .int .i64 (m : Int) ∧ ∃ m, wr = wS.drewN m) (fun v _ => n - (intOf v).toNat)
                  case atStart => exact ⟨0, by omega, rfl, HDR.out⟩
                  case round =>
                    clear HDR
                    obtain ⟨m, hm, rfl, hdr⟩ := hrel
                    have HDR := Lib.hid hdr
                    by_cases hlm : m < n
                    · have hbw : Below wS.heap.size wS wr := by obtain ⟨m, rfl⟩ := hdr; exact drewBelow _ _
                      obtain ⟨_, hall⟩ := HSQ.out.below hbw
                      obtain ⟨x1, _, x3⟩ := hall i hli
                      obtain ⟨y1, _, y3⟩ := hall m hlm
                      have x4 := x3 k hlk
                      have x5 := x3 m hlm
                      have y4 := y3 k hlk
                      have d1 := HTD.out.1 i k hli hlk
                      have d2 := HTD.out.1 i m hli hlm
                      have d3 := HTD.out.1 m k hlm hlk
                      have hf := HTD.out.2.1 i m k hli hlm hlk
                      obtain ⟨r, hrr⟩ : ∃ r, D i k = r := ⟨_, rfl⟩
                      obtain ⟨s, hs⟩ : ∃ s, D i m = s := ⟨_, rfl⟩
                      obtain ⟨t, htt⟩ : ∃ t, D m k = t := ⟨_, rfl⟩
                      rw [hrr] at x4 d1 hf
                      rw [hs] at x5 d2 hf
                      rw [htt] at y4 d3 hf
                      have i1 : (0 : Int) ≤ i := by omega
                      have i2 : (i : Int) < n := by omega
                      have i3 : (0 : Int) ≤ m := by omega
                      have i4 : (m : Int) < n := by omega
                      have i5 : (0 : Int) ≤ k := by omega
                      have i6 : (k : Int) < n := by omega
                      have hw : IntKind.i64.wrap (s + t) = s + t := IntWalk.i64_in _ (by omega)
                      have hdl : decide (s + t < r) = false := decide_eq_false (by omega)
                      clear hall x3 y3 hrr hs htt hf hdr hbw
                      go_wp2_with fail
                      go_quiet (fail)
                      go_wp2_with fail
                      go_roundw
                      case rel => exact ⟨m + 1, by omega, by go_num, by obtain ⟨m, hm⟩ := HDR.out; rw [hm]; exact ⟨_, World.drewN_drewN ..⟩⟩
                      case measure => simp [intOf]; omega
                    · have hmm : n = m := by omega
                      clear hdr
                      go_wp2_with fail
                      go_roundw
                      case rel => exact ⟨k + 1, by omega, by go_num, HDR.out⟩
                      case measure => simp [intOf]; omega
                · have hbw : Below wS.heap.size wS wr := by obtain ⟨m, hm⟩ := HDR.out; rw [hm]; exact drewBelow _ _
                  obtain ⟨_, hall⟩ := HSQ.out.below hbw
                  obtain ⟨x1, _, x3⟩ := hall i hli
                  have x4 := x3 i hli
                  rw [HTD.out.2.2.1 i hli] at x4
                  have i1 : (0 : Int) ≤ i := by omega
                  have i2 : (i : Int) < n := by omega
                  clear hall x3 hbw
                  go_wp2_with fail
                  go_roundw
                  case rel => exact ⟨i + 1, by omega, by go_num, HDR.out⟩
                  case measure => simp [intOf]; omega
            · have hbw : Below wS.heap.size wS wr := by obtain ⟨m, hm⟩ := HDR.out; rw [hm]; exact drewBelow _ _
              have hA4 := HA.out.past hbw
              have HFL := Lib.hid (flipped_any _ c1 n D wr hA4 hn1 hnn5)
              have HA4 := Lib.hid hA4
              have HBW := Lib.hid hbw
              have HE := Lib.hid (show mat n (fun i k => D k i) = mat n D from mat_congr fun i k hi hk => HTD.out.2.2.2.1 i k hi hk)
              clear hbw hA4
              go_wp2_with fail
              refine HFL.out.mono ?_
              rintro e wf ⟨Af, cf, rfl, hcf, hmf, hbf⟩
              rw [mat_len]
              have HMF := Lib.hid hmf.row
              have HBF := Lib.hid hbf
              have HA5 := Lib.hid (HA4.out.past hbf)
              have hzf := hbf.size
              have hzw := HBW.out.size
              clear hcf hmf hbf
              go_wp2_with fail
              refine (equalMat HMF.out HA5.out hnn5 HE.out).mono ?_
              rintro e we ⟨rfl, he⟩
              have HEE := Lib.hid he
              clear he
              go_wp2_with fail
              go_ret
              exact ⟨rfl, HB0.out.trans ((HP.out.trans ((HBW.out.trans ((HBF.out.trans (HEE.out.mono (by omega))).mono (by omega))).mono (by omega))).mono z00)⟩
  · go_enter Try.func4, Try.ntmps4
    go_wp2
    go_ret
    exact ⟨rfl, Below.refl _ _⟩
end Go.Proofs.Ytmffnokagbbmiaa
