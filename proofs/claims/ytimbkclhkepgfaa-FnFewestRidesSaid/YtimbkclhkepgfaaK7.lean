/- Coaches: spec.EarliestFrom, spec.LatestTo. No condition. -/
import Derived.Test.YtimbkclhkepgfaaK6
import Derived.Test.YtimbkclhkepgfaaK2
import Derived.StillTailTactics
namespace Go.Proofs.Ytimbkclhkepgfaa
open Go.RowKit

/-- A number of a slice that the call made. -/
theorem own_cell {w : World} {base B b o : Nat} {t : List Int} (h : Own w (base + 1) B (some ⟨b, o, none⟩) (t.map (Value.int .i64))) {i : Nat} (hi : i < t.length) :
    w.cell? ⟨b, o + i, none⟩ = some (.int .i64 (t.getD i 0)) ∧ w.frozen? ⟨b, o + i, none⟩ = false ∧ b < B ∧ base ≤ b := by
  obtain ⟨b', o', e, h1, h2, h3, h4⟩ := h.open' (by omega) (by rw [List.length_map]; omega)
  simp only [Option.some.injEq, Addr.mk.injEq, and_true] at e
  obtain ⟨rfl, rfl⟩ := e
  exact ⟨h3 i _ (by rw [List.getElem?_map, getDC_at hi]; rfl), h4 _, h2, by omega⟩
theorem own_put {w : World} {base B b o : Nat} {t : List Int} (h : Own w (base + 1) B (some ⟨b, o, none⟩) (t.map (Value.int .i64))) (i : Nat) (z : Int) :
    Own (w.setCell ⟨b, o + i, none⟩ (.int .i64 z)) (base + 1) B (some ⟨b, o, none⟩) ((t.set i z).map (Value.int .i64)) := by
  have := Own.set h i (.int .i64 z)
  rwa [← List.map_set] at this
theorem own_drewN {w : World} {base B : Nat} {A : Option Addr} {xs : List Value} (h : Own w base B A xs) (n : Nat) : Own (w.drewN n) base B A xs := by
  exact h.below (below_drewN (Below.refl _ _) n)
theorem own_drewT {w : World} {base B : Nat} {A : Option Addr} {xs : List Value} (h : Own w base B A xs) : Own w.drew base B A xs := h.below (below_drew (Below.refl _ _))
theorem grown_set {a w : World} {b : Nat} (h : a.grownBy w (some b)) (o : Nat) (v : Value) : a.grownBy (w.setCell ⟨b, o, none⟩ v) (some b) := g_set h o v
theorem grown_drewN {a w : World} {row : Option Nat} (h : a.grownBy w row) (n : Nat) : a.grownBy (w.drewN n) row := ⟨h.os, h.tape, h.output, h.size, h.block⟩
theorem fold_take {α : Type} (f : α → Coach → α) (a : α) (S : List Coach) {k : Nat} (hk : k < S.length) : (S.take (k + 1)).foldl f a = f ((S.take k).foldl f a) S[k] := by
  rw [List.take_succ_eq_append_getElem hk, List.foldl_append]; rfl
theorem onlyT_set (s : Nat) (τ : Int) : onlyT (s : Int) τ = (List.replicate 5 (-1)).set s τ := by simp [onlyT]
theorem sort_get {rs : List (List Int)} {k j : Nat} (hk : k < rs.length) (hj : (ordL (ltC (rs.map cp)) rs.length).getD k 0 = (j : Int)) : (sortC (rs.map cp))[k]'(by rw [sortC_length, List.length_map]; exact hk) = cAt (rs.map cp) (j : Int) := by
  simp only [sortC, List.length_map, List.getElem_map]
  rw [← hj]
  congr 1
  simp [List.getD, List.getElem?_eq_getElem (show k < (ordL (ltC (rs.map cp)) rs.length).length by rw [ordL_length]; exact hk)]

def earlV (rs : List (List Int)) (s τ : Int) : List Int := if tripB rs s τ then earlT (sortC (rs.map cp)) s τ else []
def lateV (rs : List (List Int)) (s τ : Int) : List Int := if tripB rs s τ then lateT (sortC (rs.map cp)).reverse s τ else []
theorem earlV_yes {rs : List (List Int)} {s τ : Int} (h : tripB rs s τ = true) : earlV rs s τ = earlT (sortC (rs.map cp)) s τ := by unfold earlV; rw [h]; rfl
theorem earlV_no {rs : List (List Int)} {s τ : Int} (h : tripB rs s τ = false) : earlV rs s τ = [] := by unfold earlV; rw [h]; rfl
theorem lateV_yes {rs : List (List Int)} {s τ : Int} (h : tripB rs s τ = true) : lateV rs s τ = lateT (sortC (rs.map cp)).reverse s τ := by unfold lateV; rw [h]; rfl
theorem lateV_no {rs : List (List Int)} {s τ : Int} (h : tripB rs s τ = false) : lateV rs s τ = [] := by unfold lateV; rw [h]; rfl
theorem trip_parts {rs : List (List Int)} {s τ : Int} (h : tripB rs s τ = true) : coachesB rs = true ∧ ∃ sn tn : Nat, s = (sn : Int) ∧ τ = (tn : Int) ∧ sn ≤ 4 ∧ tn ≤ 60 := by
  simp only [tripB, Bool.and_eq_true, inR_iff] at h
  exact ⟨h.1, s.toNat, τ.toNat, by omega, by omega, by omega, by omega⟩
theorem prefix_times {rs : List (List Int)} (hv : coachesB rs = true) {s τ : Nat} (hτ : τ ≤ 60) (k : Nat) : Times (((sortC (rs.map cp)).take k).foldl (fun t c => takeE t t c) (onlyT s τ)) :=
  foldE_times (fun c hc => sortC_ok (cp_ok hv) c (List.mem_of_mem_take hc)) (onlyT_times ⟨by omega, by omega⟩)
theorem prefix_timesL {rs : List (List Int)} (hv : coachesB rs = true) {s τ : Nat} (hτ : τ ≤ 60) (k : Nat) : Times (((sortC (rs.map cp)).reverse.take k).foldl takeL (onlyT s τ)) :=
  foldL_times (fun c hc => sortC_ok (cp_ok hv) c (List.mem_reverse.1 (List.mem_of_mem_take hc))) (onlyT_times ⟨by omega, by omega⟩)
theorem rev_get {rs : List (List Int)} {k m j : Nat} (hkm : k + m + 1 = rs.length) (hj : (ordL (ltC (rs.map cp)) rs.length).getD m 0 = (j : Int)) : (sortC (rs.map cp)).reverse[k]'(by rw [List.length_reverse, sortC_length, List.length_map]; omega) = cAt (rs.map cp) (j : Int) := by
  rw [List.getElem_reverse]
  have := sort_get (rs := rs) (k := m) (by omega) hj
  rw [← this]
  congr 1
  rw [sortC_length, List.length_map]; omega

set_option maxRecDepth 100000 in
set_option maxHeartbeats 8000000 in
theorem specEarl_yes (A : Option Addr) (c : Nat) (rs : List (List Int)) (s τ : Nat) (w : World) (hr : Grid w 0 w.heap.size A rs) (hs : ∀ r ∈ rs, r.length ≤ 1000000000) (ht : tripB rs (s : Int) (τ : Int) = true) :
    Calls Try.prog 19 #[.slice A rs.length c, .int .i64 s, .int .i64 τ] w (iRes w (earlT (sortC (rs.map cp)) s τ)) := by
  obtain ⟨hv, sn, tn, h1, h2, hs4, ht60⟩ := trip_parts ht
  obtain rfl : sn = s := by omega
  obtain rfl : tn = τ := by omega
  have hl10 := coaches_len hv
  have HV := Lib.hid hv
  have HTR := Lib.hid (validTrip_any A c rs (sn : Int) (tn : Int) w hr (by omega) hs)
  rw [ht] at HTR
  have HGR := Lib.hid hr
  clear ht hv hs h1 h2 hr
  go_enter Try.func19, Try.ntmps19
  go_wp2_with fail
  refine HTR.out.mono ?_
  rintro e w0 ⟨rfl, hdn⟩
  have hb0 : Below w.heap.size w w0 := by obtain ⟨n, rfl⟩ := hdn; exact drewBelow _ _
  have hz0 := hb0.size
  have HB0 := Lib.hid hb0
  clear HTR hdn hb0
  go_wp2_with fail
  refine (unknown_any 5 (-1) w0 (by omega)).mono ?_
  rintro e w1 ⟨A1, c1, rfl, hc1, ho1, hb1⟩
  simp only [List.length_replicate] at hc1 ⊢
  have HC1 := Lib.hid hc1
  obtain ⟨b, o, rfl, hbb, hbw, _, _⟩ := ho1.open' (by omega) (by simp)
  obtain ⟨y1, y2, _, _⟩ := own_cell ho1 (i := sn) (by simp; omega)
  have HO1 := Lib.hid (own_put ho1 sn (tn : Int))
  have HB1 := Lib.hid ((HB0.out.trans (hb1.mono hz0)).setCell (p := ⟨b, o + sn, none⟩) (by show w.heap.size ≤ b; omega) (.int .i64 (tn : Int)))
  have hz1 := hb1.size
  have hsI : (sn : Int) < 5 := by omega
  have hs0 : (0 : Int) ≤ sn := by omega
  clear ho1 hb1
  go_wp2_with fail
  have hz1' : (w1.setCell ⟨b, o + sn, none⟩ (.int .i64 (tn : Int))).heap.size = w1.heap.size := by simp [World.setCell]
  refine (byTime_any A c rs _ ((HGR.out.below HB1.out).more HB1.out.size) HV.out).mono ?_
  rintro e w2 ⟨A2, c2, rfl, hc2, ho2, hb2⟩
  rw [ordL_length] at hc2 ⊢
  have hz2 : w1.heap.size ≤ w2.heap.size := by have := hb2.size; omega
  have HO2 := Lib.hid ho2
  have HB2 := Lib.hid (HB1.out.trans (hb2.mono HB1.out.size))
  have HT2 := Lib.hid (show Own w2 (w0.heap.size + 1) w2.heap.size (some ⟨b, o, none⟩) ((((sortC (rs.map cp)).take 0).foldl (fun t c => takeE t t c) (onlyT sn tn)).map (Value.int .i64)) from by
    have h := (HO1.out.more (by omega)).past hb2
    rw [List.take_zero, List.foldl_nil, onlyT_set]
    exact h)
  have hz1s := hz1'
  clear hc1 hc2 ho2 hb2 y1 y2 hz1' HO1 HB1
  go_wp2
  go_loopw [9, 10] (fun v _ wr => ∃ k : Nat, k ≤ rs.length ∧ v = .int .i64 k ∧ Own wr (w0.heap.size + 1) w2.heap.size (some ⟨b, o, none⟩) ((((sortC (rs.map cp)).take k).foldl (fun t c => takeE t t c) (onlyT sn tn)).map (Value.int .i64)) ∧ w2.grownBy wr (some b)) (fun v _ _ => rs.length - (intOf v).toNat)
  case atStart => exact ⟨0, by omega, rfl, HT2.out, World.grownBy.refl _ _⟩
  case round =>
    obtain ⟨k, hk, rfl, hot, hgw⟩ := hrel
    clear HT2
    by_cases hlt : k < rs.length
    · skip
      have HGW := Lib.hid hgw
      have hzr := hgw.size
      have hbr : Below w.heap.size w wr := HB2.out.grown hgw HB2.out.size (fun i hi => by injection hi with hi; omega)
      have HBR := Lib.hid hbr
      have hol : (ordL (ltC (rs.map cp)) rs.length).length = rs.length := ordL_length _ _
      obtain ⟨bo, oo, rfl, hbo0, hbo, hco, _⟩ := HO2.out.open' (by omega) (by rw [List.length_map]; omega)
      obtain ⟨j, hj, hjl⟩ := ordL_get (lt := ltC (rs.map cp)) (n := rs.length) (k := k) (by omega)
      have u0 : wr.cell? ⟨bo, oo + k, none⟩ = some (.int .i64 j) := by
        rw [World.cell?_of_block (a := ⟨bo, oo + k, none⟩) (hgw.block bo (by omega) (fun e => by injection e with e; omega))]
        exact hco k _ (by rw [List.getElem?_map, getDC_at (by omega), hj]; rfl)
      obtain ⟨p, l, q, d, b1, o1, b1', o1', c3, he, ⟨hp4, hl60, hq4, hld, hd60⟩, rfl, g, g0, g1, g2, g3, hbg, hbg'⟩ := ((HGR.out.below hbr).coach HV.out hjl)
      have HAT := Lib.hid (cAt_row hjl he)
      have HJ := Lib.hid hj
      have hT := prefix_times HV.out (s := sn) ht60 k
      have HFT := Lib.hid (fold_take (fun t c => takeE t t c) (onlyT sn tn) (sortC (rs.map cp)) (k := k) (by simp [sortC_length]; omega))
      obtain ⟨t, hte⟩ : ∃ t, ((sortC (rs.map cp)).take k).foldl (fun t c => takeE t t c) (onlyT sn tn) = t := ⟨_, rfl⟩
      rw [hte] at hot hT
      have HTE := Lib.hid hte
      have htl := hT.len
      obtain ⟨z0, _, _, _⟩ := own_cell hot (i := p) (by omega)
      obtain ⟨z1, z2, hbw2, _⟩ := own_cell hot (i := q) (by omega)
      have z4 := (own_cell hot (i := p) (by omega)).2.1
      have x0 := hT.at (p : Int)
      have x1 := hT.at (q : Int)
      have hxp : tA t (p : Int) = t.getD p 0 := by simp [tA]
      have hxq : tA t (q : Int) = t.getD q 0 := by simp [tA]
      obtain ⟨xp, hp⟩ : ∃ xp, t.getD p 0 = xp := ⟨_, rfl⟩
      obtain ⟨xq, hq⟩ : ∃ xq, t.getD q 0 = xq := ⟨_, rfl⟩
      rw [hp] at z0 hxp
      rw [hq] at z1 hxq
      rw [hxp] at x0
      rw [hxq] at x1
      obtain ⟨x00, x01⟩ := x0
      obtain ⟨x10, x11⟩ := x1
      have HXP := Lib.hid hxp
      have HXQ := Lib.hid hxq
      have HOT := Lib.hid hot
      have HG := Lib.hid (And.intro z1 z2)
      have hjI : (j : Int) < rs.length := by omega
      have hj0 : (0 : Int) ≤ j := by omega
      have hkI : (k : Int) < rs.length := by omega
      have hk0 : (0 : Int) ≤ (k : Int) := by omega
      have hpI : (p : Int) < 5 := by omega
      have hqI : (q : Int) < 5 := by omega
      have hp0 : (0 : Int) ≤ p := by omega
      have hq0 : (0 : Int) ≤ q := by omega
      have hb1r : b1 < wr.heap.size := by omega
      have hb1r' : b1' < wr.heap.size := by omega
      clear he hj hbr hgw hco hT hte hot hxp hxq hp hq hol
      by_cases a0 : 0 ≤ xp
      · have f0 : decide (0 ≤ xp) = true := decide_eq_true a0
        by_cases a1 : xp ≤ (l : Int)
        · have f1 : decide (xp ≤ (l : Int)) = true := decide_eq_true a1
          by_cases a2 : xq < 0
          · have f2 : decide (xq < 0) = true := decide_eq_true a2
            have HST := Lib.hid (show ((sortC (rs.map cp)).take (k + 1)).foldl (fun t c => takeE t t c) (onlyT sn tn) = t.set q (d : Int) from by rw [HFT.out, HTE.out, sort_get hlt HJ.out, HAT.out]; exact (by unfold takeE; rw [if_pos (show ((0 ≤ tA t (p : Int) ∧ tA t (p : Int) ≤ (l : Int)) ∧ (tA t (q : Int) < 0 ∨ (d : Int) < tA t (q : Int))) by rw [HXP.out, HXQ.out]; omega)]; rfl))
            go_wp2
            go_quiet (fail)
            go_simp
            have n1 : (wr.drewN nq).cell? ⟨b, o + q, none⟩ = some (.int .i64 xq) := HG.out.1
            have n2 : (wr.drewN nq).frozen? ⟨b, o + q, none⟩ = false := HG.out.2
            have m1 : (wr.drewN nq).cell? ⟨b1', o1' + 2, none⟩ = some (.int .i64 q) := g2
            have m2 : (wr.drewN nq).cell? ⟨b1', o1' + 3, none⟩ = some (.int .i64 d) := g3
            have HF := Lib.hid (And.intro (own_put (own_drewT (own_drewN HOT.out nq)) q (d : Int)) (grown_set (g_drew (grown_drewN HGW.out nq)) (o + q) (.int .i64 (d : Int))))
            obtain ⟨W0, hW0⟩ : ∃ W0, wr.drewN nq = W0 := ⟨_, rfl⟩
            rw [hW0] at n1 n2 m1 m2 HF ⊢
            clear hW0 f0 f1 f2
            go_wp2
            go_still_tail 8, (by kernel_rfl)
            change wpList _ _ _ _ _ W0.drew
            go_wp2
            go_roundw
            case rel => exact ⟨k + 1, by omega, by go_num, by rw [HST.out]; exact HF.out.1, HF.out.2⟩
            case measure => simp [intOf]; omega
          · have f2 : decide (xq < 0) = false := decide_eq_false a2
            by_cases a3 : (d : Int) < xq
            · have f3 : decide ((d : Int) < xq) = true := decide_eq_true a3
              have HST := Lib.hid (show ((sortC (rs.map cp)).take (k + 1)).foldl (fun t c => takeE t t c) (onlyT sn tn) = t.set q (d : Int) from by rw [HFT.out, HTE.out, sort_get hlt HJ.out, HAT.out]; exact (by unfold takeE; rw [if_pos (show ((0 ≤ tA t (p : Int) ∧ tA t (p : Int) ≤ (l : Int)) ∧ (tA t (q : Int) < 0 ∨ (d : Int) < tA t (q : Int))) by rw [HXP.out, HXQ.out]; omega)]; rfl))
              go_wp2
              go_quiet (fail)
              go_simp
              have n1 : (wr.drewN nq).cell? ⟨b, o + q, none⟩ = some (.int .i64 xq) := HG.out.1
              have n2 : (wr.drewN nq).frozen? ⟨b, o + q, none⟩ = false := HG.out.2
              have m1 : (wr.drewN nq).cell? ⟨b1', o1' + 2, none⟩ = some (.int .i64 q) := g2
              have m2 : (wr.drewN nq).cell? ⟨b1', o1' + 3, none⟩ = some (.int .i64 d) := g3
              have HF := Lib.hid (And.intro (own_put (own_drewT (own_drewN HOT.out nq)) q (d : Int)) (grown_set (g_drew (grown_drewN HGW.out nq)) (o + q) (.int .i64 (d : Int))))
              obtain ⟨W0, hW0⟩ : ∃ W0, wr.drewN nq = W0 := ⟨_, rfl⟩
              rw [hW0] at n1 n2 m1 m2 HF ⊢
              clear hW0 f0 f1 f2 f3
              go_wp2
              go_still_tail 8, (by kernel_rfl)
              change wpList _ _ _ _ _ W0.drew
              go_wp2
              go_roundw
              case rel => exact ⟨k + 1, by omega, by go_num, by rw [HST.out]; exact HF.out.1, HF.out.2⟩
              case measure => simp [intOf]; omega
            · have f3 : decide ((d : Int) < xq) = false := decide_eq_false a3
              have HST := Lib.hid (show ((sortC (rs.map cp)).take (k + 1)).foldl (fun t c => takeE t t c) (onlyT sn tn) = t from by rw [HFT.out, HTE.out, sort_get hlt HJ.out, HAT.out]; exact (by unfold takeE; rw [if_neg (show ¬ ((0 ≤ tA t (p : Int) ∧ tA t (p : Int) ≤ (l : Int)) ∧ (tA t (q : Int) < 0 ∨ (d : Int) < tA t (q : Int))) by rw [HXP.out, HXQ.out]; omega)]))
              go_wp2
              go_quiet (fail)
              go_simp
              go_wp2
              clear f0 f1 f2 f3
              go_roundw
              case rel => exact ⟨k + 1, by omega, by go_num, by rw [HST.out]; exact own_drewN HOT.out _, grown_drewN HGW.out _⟩
              case measure => simp [intOf]; omega
        · have f1 : decide (xp ≤ (l : Int)) = false := decide_eq_false a1
          have HST := Lib.hid (show ((sortC (rs.map cp)).take (k + 1)).foldl (fun t c => takeE t t c) (onlyT sn tn) = t from by rw [HFT.out, HTE.out, sort_get hlt HJ.out, HAT.out]; exact (by unfold takeE; rw [if_neg (show ¬ ((0 ≤ tA t (p : Int) ∧ tA t (p : Int) ≤ (l : Int)) ∧ (tA t (q : Int) < 0 ∨ (d : Int) < tA t (q : Int))) by rw [HXP.out, HXQ.out]; omega)]))
          go_wp2
          go_quiet (fail)
          go_simp
          go_wp2
          clear f0 f1
          go_roundw
          case rel => exact ⟨k + 1, by omega, by go_num, by rw [HST.out]; exact own_drewN HOT.out _, grown_drewN HGW.out _⟩
          case measure => simp [intOf]; omega
      · have f0 : decide (0 ≤ xp) = false := decide_eq_false a0
        have HST := Lib.hid (show ((sortC (rs.map cp)).take (k + 1)).foldl (fun t c => takeE t t c) (onlyT sn tn) = t from by rw [HFT.out, HTE.out, sort_get hlt HJ.out, HAT.out]; exact (by unfold takeE; rw [if_neg (show ¬ ((0 ≤ tA t (p : Int) ∧ tA t (p : Int) ≤ (l : Int)) ∧ (tA t (q : Int) < 0 ∨ (d : Int) < tA t (q : Int))) by rw [HXP.out, HXQ.out]; omega)]))
        go_wp2
        go_quiet (fail)
        go_simp
        go_wp2
        clear f0
        go_roundw
        case rel => exact ⟨k + 1, by omega, by go_num, by rw [HST.out]; exact own_drewN HOT.out _, grown_drewN HGW.out _⟩
        case measure => simp [intOf]; omega
    · have hk2 : k = rs.length := by omega
      have hlen : (earlT (sortC (rs.map cp)) sn tn).length = 5 := (earlT_times (fun c hc => sortC_ok (cp_ok HV.out) c hc) ⟨by omega, by omega⟩).len
      have HF := Lib.hid (show iRes w (earlT (sortC (rs.map cp)) sn tn) (.returned (.slice (some ⟨b, o, none⟩) 5 c1)) wr from ⟨_, c1, by rw [hlen], by rw [hlen]; exact HC1.out, by
        rw [hk2, List.take_of_length_le (by simp [sortC_length])] at hot
        exact (hot.more hgw.size).less (by omega), HB2.out.grown hgw HB2.out.size (fun i hi => by injection hi with hi; omega)⟩)
      clear hot hgw hk2 hlen
      go_wp2
      go_ret
      exact HF.out

set_option maxRecDepth 100000 in
theorem specEarl_any (A : Option Addr) (c : Nat) (rs : List (List Int)) (s τ : Int) (w : World) (hr : Grid w 0 w.heap.size A rs) (hl : rs.length ≤ 1000000000) (hs : ∀ r ∈ rs, r.length ≤ 1000000000) :
    Calls Try.prog 19 #[.slice A rs.length c, .int .i64 s, .int .i64 τ] w (iRes w (earlV rs s τ)) := by
  by_cases ht : tripB rs s τ = true
  · obtain ⟨_, sn, tn, rfl, rfl, _, _⟩ := trip_parts ht
    rw [earlV_yes ht]
    exact specEarl_yes A c rs sn tn w hr hs ht
  · have ht' : tripB rs s τ = false := by simpa using ht
    have HTR := Lib.hid (validTrip_any A c rs s τ w hr hl hs)
    rw [ht'] at HTR
    have HV := Lib.hid (earlV_no ht')
    clear ht ht' hs
    go_enter Try.func19, Try.ntmps19
    go_wp2_with fail
    refine HTR.out.mono ?_
    rintro e w0 ⟨rfl, hdn⟩
    have HB0 := Lib.hid (show Below w.heap.size w w0 by obtain ⟨n, rfl⟩ := hdn; exact drewBelow _ _)
    clear HTR hdn
    go_wp2
    go_ret
    exact iRes.none HV.out HB0.out
end Go.Proofs.Ytimbkclhkepgfaa
