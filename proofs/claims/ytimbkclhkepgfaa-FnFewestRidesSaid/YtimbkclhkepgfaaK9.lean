/- Coaches: spec.within. No condition. -/
import Derived.Test.YtimbkclhkepgfaaK7
namespace Go.Proofs.Ytimbkclhkepgfaa
open Go.RowKit

set_option maxRecDepth 100000 in
set_option maxHeartbeats 8000000 in
theorem within_any (A : Option Addr) (c : Nat) (rs : List (List Int)) (sn tn N : Nat) (w : World) (hr : Grid w 0 w.heap.size A rs) (hv : coachesB rs = true) (hs4 : sn ≤ 4) (ht60 : tn ≤ 60) (hN : N ≤ 100) :
    Calls Try.prog 20 #[.slice A rs.length c, .int .i64 sn, .int .i64 tn, .int .i64 N] w (iRes w (withT (rs.map cp) sn tn N)) := by
  obtain ⟨i0, hi0, hz0, hz1, hz2⟩ := info_parts Try.info3
  have hl10 := coaches_len hv
  have HV := Lib.hid hv
  have HGR := Lib.hid hr
  clear hv hr
  go_enter Try.func20, Try.ntmps20
  go_wp2_with fail
  refine (unknown_any 5 (-1) w (by omega)).mono ?_
  rintro e w1 ⟨A1, c1, rfl, hc1, ho1, hb1⟩
  simp only [List.length_replicate] at hc1 ⊢
  obtain ⟨b, o, rfl, hbb, hbw, -, -⟩ := ho1.open' (by omega) (by simp)
  obtain ⟨y1, y2, -, -⟩ := own_cell ho1 (i := sn) (by simp; omega)
  have hzw1 := hb1.size
  have hzw1' : (w1.setCell ⟨b, o + sn, none⟩ (.int .i64 (tn : Int))).heap.size = w1.heap.size := by simp [World.setCell]
  have HO1 := Lib.hid (show Own (w1.setCell ⟨b, o + sn, none⟩ (.int .i64 (tn : Int))) (w.heap.size + 1) (w1.setCell ⟨b, o + sn, none⟩ (.int .i64 (tn : Int))).heap.size (some ⟨b, o, none⟩) ((withT (rs.map cp) sn tn 0).map (Value.int .i64)) from by
    have h := own_put ho1 sn (tn : Int)
    rw [hzw1', withT, onlyT_set]
    exact h)
  have HB1 := Lib.hid (hb1.setCell (p := ⟨b, o + sn, none⟩) (by show w.heap.size ≤ b; omega) (.int .i64 (tn : Int)))
  have hsI : (sn : Int) < 5 := by omega
  have hs0 : (0 : Int) ≤ sn := by omega
  have HC1 := Lib.hid hc1
  clear ho1 hb1 hzw1' hc1
  go_wp2
  go_loopw [3, 9] (fun i v wr => ∃ (i' m b o c : Nat), i' + m = N ∧ i = .int .i64 m ∧ v = .slice (some ⟨b, o, none⟩) 5 c ∧ 5 ≤ c ∧ Own wr (w.heap.size + 1) wr.heap.size (some ⟨b, o, none⟩) ((withT (rs.map cp) sn tn i').map (Value.int .i64)) ∧ Below w.heap.size w wr) (fun i _ _ => (intOf i).toNat)
  case atStart => exact ⟨0, N, b, o, c1, by omega, rfl, rfl, HC1.out, HO1.out, HB1.out⟩
  case round =>
    obtain ⟨i', m, b, o, c1, him, rfl, rfl, hc5, hot, hbr⟩ := hrel
    clear HO1 HB1 HC1 hbb hbw y1 y2
    have HIM := Lib.hid him
    have HC5 := Lib.hid hc5
    have hm100 : m ≤ 100 := by omega
    have hzr := hbr.size
    have HBR := Lib.hid hbr
    have hTa := withT_times (cp_ok HV.out) (s := (sn : Int)) (τ := (tn : Int)) ⟨by omega, by omega⟩ i'
    obtain ⟨a, hae⟩ : ∃ a, withT (rs.map cp) sn tn i' = a := ⟨_, rfl⟩
    rw [hae] at hot hTa
    have HAE := Lib.hid hae
    have hal := hTa.len
    have HTA := Lib.hid hTa
    have HOA := Lib.hid hot
    have hbw := (own_cell hot (i := 0) (by omega)).2.2.1
    have hbb := (own_cell hot (i := 0) (by omega)).2.2.2
    clear him hae hTa hbr hc5
    by_cases hlt : 0 < m
    · have hsrc := hot.row.more (show wr.heap.size ≤ wr.heap.size + 1 by omega)
      have hsrc2 : Own (wr.alloc (.cells #[] 3)) 0 wr.heap.size (some ⟨b, o, none⟩) (a.map (Value.int .i64)) := hot.row.below ((Below.refl _ _).alloc (Nat.le_refl _) _)
      have hownL : (wr.alloc (.cells #[] 3)).ownsRow wr.heap.size 3 1 (.slice (some ⟨wr.heap.size, 0, none⟩) 0 0) 0 [] := World.ownsRow_lit wr #[] 0 (Nat.le_refl _) (by simp [maxLen]) rfl
      clear hsrc hot
      go_wp2_with (at_builtin; refine wpList_extend rfl (.tmp 22) (.tmp 23) 27 rfl i0 (.int .i64 0) 8 Try.underlying27 hi0 hz0 hz1 hz2 rfl (by decide) _ _ rfl hownL _ 5 _ _ (a.map (Value.int .i64)) rfl (by rw [List.length_map]; omega) hsrc2 (fun u hu => by obtain ⟨z, _, rfl⟩ := List.mem_map.1 hu; rfl) (by omega) (by omega) (by simp) ?_)
      intro A2 c2 w2 hown2 hg2
      have hgn : wr.grownBy w2 none := g_new (World.grownBy_alloc wr _ none) hg2 (fun i hi => (hownL.lt _ hi).1)
      have ho2 : Own w2 (wr.heap.size + 1) w2.heap.size A2 (a.map (Value.int .i64)) := own_of_rowS (by decide) hown2
      have hc2 := own_cap hown2
      obtain ⟨b2, o2, rfl, hb20, hb2w, -, -⟩ := ho2.open' (by omega) (by rw [List.length_map]; omega)
      have hzw2 := hgn.size
      have HT2 := Lib.hid (show Own w2 (wr.heap.size + 1) w2.heap.size (some ⟨b2, o2, none⟩) ((((rs.map cp).take 0).foldl (takeE a) a).map (Value.int .i64)) from ho2)
      have HOA2 := Lib.hid (show Own w2 (w.heap.size + 1) wr.heap.size (some ⟨b, o, none⟩) (a.map (Value.int .i64)) from HOA.out.below (below_g hgn (Nat.le_refl _)))
      have HB2 := Lib.hid (HBR.out.trans ((below_g hgn (Nat.le_refl _)).mono hzr))
      have HC2 := Lib.hid hc2
      clear hsrc2 hownL hown2 hg2 hgn ho2 hc2
      obtain ⟨ws, hws⟩ : ∃ ws, ws = wr := ⟨_, rfl⟩
      rw [← hws] at HT2 HOA2 hb20 hzw2 hbw hzr HBR HOA
      clear hws
      go_wp2
      go_loopw [11, 12] (fun v _ wr => ∃ k : Nat, k ≤ rs.length ∧ v = .int .i64 k ∧ Own wr (ws.heap.size + 1) w2.heap.size (some ⟨b2, o2, none⟩) ((((rs.map cp).take k).foldl (takeE a) a).map (Value.int .i64)) ∧ w2.grownBy wr (some b2)) (fun v _ _ => rs.length - (intOf v).toNat)
      case atStart => exact ⟨0, by omega, rfl, HT2.out, World.grownBy.refl _ _⟩
      case round =>
        obtain ⟨k, hk, rfl, hot, hgw⟩ := hrel
        clear HT2
        obtain ⟨wx, hwx⟩ : ∃ wx, wx = wr := ⟨_, rfl⟩
        subst hwx
        by_cases hlt2 : k < rs.length
        · have HGW := Lib.hid hgw
          have hzx := hgw.size
          have hbx : Below w.heap.size w wx := HB2.out.grown hgw HB2.out.size (fun i hi => by injection hi with hi; omega)
          have hoa := HOA2.out.grown (by omega) hgw (fun b' o' e e2 => by injection e with e; injection e with e; omega)
          obtain ⟨p, l, q, d, b1, o1, b1', o1', c3, he, ⟨hp4, hl60, hq4, hld, hd60⟩, rfl, g, g0, g1, g2, g3, hbg, hbg'⟩ := ((HGR.out.below hbx).coach HV.out hlt2)
          have HAT := Lib.hid (show (rs.map cp)[k]'(by simpa using hlt2) = ⟨p, l, q, d⟩ by rw [List.getElem_map, he]; rfl)
          have hT := foldW_times (a := a) (cs := (rs.map cp).take k) (fun c hc => cp_ok HV.out c (List.mem_of_mem_take hc)) HTA.out
          have HFT := Lib.hid (fold_take (takeE a) a (rs.map cp) (k := k) (by simpa using hlt2))
          obtain ⟨t, hte⟩ : ∃ t, ((rs.map cp).take k).foldl (takeE a) a = t := ⟨_, rfl⟩
          rw [hte] at hot hT
          have HTE := Lib.hid hte
          have htl := hT.len
          have z0 := (own_cell hoa (i := p) (by omega)).1
          have z1 := (own_cell hot (i := q) (by omega)).1
          have z2 := (own_cell hot (i := q) (by omega)).2.1
          have x0 := HTA.out.at (p : Int)
          have x1 := hT.at (q : Int)
          have hxp : tA a (p : Int) = a.getD p 0 := by simp [tA]
          have hxq : tA t (q : Int) = t.getD q 0 := by simp [tA]
          obtain ⟨xp, hp⟩ : ∃ xp, a.getD p 0 = xp := ⟨_, rfl⟩
          obtain ⟨xq, hq⟩ : ∃ xq, t.getD q 0 = xq := ⟨_, rfl⟩
          rw [hp] at z0 hxp
          rw [hq] at z1 hxq
          rw [hxp] at x0
          rw [hxq] at x1
          obtain ⟨x00, x01⟩ := x0
          obtain ⟨x10, x11⟩ := x1
          have HXP := Lib.hid hxp
          have HXQ := Lib.hid hxq
          have HOT := Lib.hid hot
          have HG := Lib.hid (And.intro z1 z2)
          have hkI : (k : Int) < rs.length := by omega
          have hk0 : (0 : Int) ≤ (k : Int) := by omega
          have hpI : (p : Int) < 5 := by omega
          have hqI : (q : Int) < 5 := by omega
          have hp0 : (0 : Int) ≤ p := by omega
          have hq0 : (0 : Int) ≤ q := by omega
          have hb1r : b1 < wx.heap.size := by omega
          have hb1r' : b1' < wx.heap.size := by omega
          clear he hbx hgw hoa hT hte hot hxp hxq hp hq
          by_cases a0 : 0 ≤ xp
          · have f0 : decide (0 ≤ xp) = true := decide_eq_true a0
            by_cases a1 : xp ≤ (l : Int)
            · have f1 : decide (xp ≤ (l : Int)) = true := decide_eq_true a1
              by_cases a2 : xq < 0
              · have f2 : decide (xq < 0) = true := decide_eq_true a2
                have HST := Lib.hid (show ((rs.map cp).take (k + 1)).foldl (takeE a) a = t.set q (d : Int) from by rw [HFT.out, HTE.out, HAT.out]; exact (by unfold takeE; rw [if_pos (show ((0 ≤ tA a (p : Int) ∧ tA a (p : Int) ≤ (l : Int)) ∧ (tA t (q : Int) < 0 ∨ (d : Int) < tA t (q : Int))) by rw [HXP.out, HXQ.out]; omega)]; rfl))
                go_wp2
                go_quiet (fail)
                go_simp
                have n1 : (wx.drewN nq).cell? ⟨b2, o2 + q, none⟩ = some (.int .i64 xq) := HG.out.1
                have n2 : (wx.drewN nq).frozen? ⟨b2, o2 + q, none⟩ = false := HG.out.2
                have m1 : (wx.drewN nq).cell? ⟨b1', o1' + 2, none⟩ = some (.int .i64 q) := g2
                have m2 : (wx.drewN nq).cell? ⟨b1', o1' + 3, none⟩ = some (.int .i64 d) := g3
                have HF := Lib.hid (And.intro (own_put (own_drewT (own_drewN HOT.out nq)) q (d : Int)) (grown_set (g_drew (grown_drewN HGW.out nq)) (o2 + q) (.int .i64 (d : Int))))
                obtain ⟨W0, hW0⟩ : ∃ W0, wx.drewN nq = W0 := ⟨_, rfl⟩
                rw [hW0] at n1 n2 m1 m2 HF ⊢
                clear hW0 f0 f1 f2
                go_wp2
                go_still_tail 8, (by kernel_rfl)
                change wpList _ _ _ _ _ W0.drew
                go_wp2
                go_roundw
                case rel => exact ⟨k + 1, by omega, by go_num, by rw [HST.out]; exact HF.out.1, HF.out.2⟩
                case measure => simp [intOf]; omega
              · have f2 : decide (xq < 0) = false := decide_eq_false a2
                by_cases a3 : (d : Int) < xq
                · have f3 : decide ((d : Int) < xq) = true := decide_eq_true a3
                  have HST := Lib.hid (show ((rs.map cp).take (k + 1)).foldl (takeE a) a = t.set q (d : Int) from by rw [HFT.out, HTE.out, HAT.out]; exact (by unfold takeE; rw [if_pos (show ((0 ≤ tA a (p : Int) ∧ tA a (p : Int) ≤ (l : Int)) ∧ (tA t (q : Int) < 0 ∨ (d : Int) < tA t (q : Int))) by rw [HXP.out, HXQ.out]; omega)]; rfl))
                  go_wp2
                  go_quiet (fail)
                  go_simp
                  have n1 : (wx.drewN nq).cell? ⟨b2, o2 + q, none⟩ = some (.int .i64 xq) := HG.out.1
                  have n2 : (wx.drewN nq).frozen? ⟨b2, o2 + q, none⟩ = false := HG.out.2
                  have m1 : (wx.drewN nq).cell? ⟨b1', o1' + 2, none⟩ = some (.int .i64 q) := g2
                  have m2 : (wx.drewN nq).cell? ⟨b1', o1' + 3, none⟩ = some (.int .i64 d) := g3
                  have HF := Lib.hid (And.intro (own_put (own_drewT (own_drewN HOT.out nq)) q (d : Int)) (grown_set (g_drew (grown_drewN HGW.out nq)) (o2 + q) (.int .i64 (d : Int))))
                  obtain ⟨W0, hW0⟩ : ∃ W0, wx.drewN nq = W0 := ⟨_, rfl⟩
                  rw [hW0] at n1 n2 m1 m2 HF ⊢
                  clear hW0 f0 f1 f2 f3
                  go_wp2
                  go_still_tail 8, (by kernel_rfl)
                  change wpList _ _ _ _ _ W0.drew
                  go_wp2
                  go_roundw
                  case rel => exact ⟨k + 1, by omega, by go_num, by rw [HST.out]; exact HF.out.1, HF.out.2⟩
                  case measure => simp [intOf]; omega
                · have f3 : decide ((d : Int) < xq) = false := decide_eq_false a3
                  have HST := Lib.hid (show ((rs.map cp).take (k + 1)).foldl (takeE a) a = t from by rw [HFT.out, HTE.out, HAT.out]; exact (by unfold takeE; rw [if_neg (show ¬ ((0 ≤ tA a (p : Int) ∧ tA a (p : Int) ≤ (l : Int)) ∧ (tA t (q : Int) < 0 ∨ (d : Int) < tA t (q : Int))) by rw [HXP.out, HXQ.out]; omega)]))
                  go_wp2
                  go_quiet (fail)
                  go_simp
                  go_wp2
                  clear f0 f1 f2 f3
                  go_roundw
                  case rel => exact ⟨k + 1, by omega, by go_num, by rw [HST.out]; exact own_drewN HOT.out _, grown_drewN HGW.out _⟩
                  case measure => simp [intOf]; omega
            · have f1 : decide (xp ≤ (l : Int)) = false := decide_eq_false a1
              have HST := Lib.hid (show ((rs.map cp).take (k + 1)).foldl (takeE a) a = t from by rw [HFT.out, HTE.out, HAT.out]; exact (by unfold takeE; rw [if_neg (show ¬ ((0 ≤ tA a (p : Int) ∧ tA a (p : Int) ≤ (l : Int)) ∧ (tA t (q : Int) < 0 ∨ (d : Int) < tA t (q : Int))) by rw [HXP.out, HXQ.out]; omega)]))
              go_wp2
              go_quiet (fail)
              go_simp
              go_wp2
              clear f0 f1
              go_roundw
              case rel => exact ⟨k + 1, by omega, by go_num, by rw [HST.out]; exact own_drewN HOT.out _, grown_drewN HGW.out _⟩
              case measure => simp [intOf]; omega
          · have f0 : decide (0 ≤ xp) = false := decide_eq_false a0
            have HST := Lib.hid (show ((rs.map cp).take (k + 1)).foldl (takeE a) a = t from by rw [HFT.out, HTE.out, HAT.out]; exact (by unfold takeE; rw [if_neg (show ¬ ((0 ≤ tA a (p : Int) ∧ tA a (p : Int) ≤ (l : Int)) ∧ (tA t (q : Int) < 0 ∨ (d : Int) < tA t (q : Int))) by rw [HXP.out, HXQ.out]; omega)]))
            go_wp2
            go_quiet (fail)
            go_simp
            go_wp2
            clear f0
            go_roundw
            case rel => exact ⟨k + 1, by omega, by go_num, by rw [HST.out]; exact own_drewN HOT.out _, grown_drewN HGW.out _⟩
            case measure => simp [intOf]; omega
        · have hk2 : k = rs.length := by omega
          have HF := Lib.hid (show Own wx (w.heap.size + 1) wx.heap.size (some ⟨b2, o2, none⟩) ((withT (rs.map cp) sn tn (i' + 1)).map (Value.int .i64)) from by
            rw [hk2, List.take_of_length_le (by simp)] at hot
            rw [withT, HAE.out]
            exact (hot.more hgw.size).less (by omega))
          have HBF := Lib.hid (HB2.out.grown hgw HB2.out.size (fun i hi => by injection hi with hi; omega))
          clear hot hgw hk2 hk
          go_wp2
          go_roundw
          case rel => exact ⟨i' + 1, m - 1, b2, o2, c2, by have := HIM.out; omega, by go_num, rfl, HC2.out, HF.out, HBF.out⟩
          case measure => simp [intOf]; omega
    · have hm0 : m = 0 := by omega
      subst hm0
      have hiN : i' = N := by have := HIM.out; omega
      have HF := Lib.hid (show iRes w (withT (rs.map cp) sn tn N) (.returned (.slice (some ⟨b, o, none⟩) 5 c1)) wr from by
        have hl5 : (withT (rs.map cp) sn tn N).length = 5 := (withT_times (cp_ok HV.out) ⟨by omega, by omega⟩ N).len
        refine ⟨_, c1, by rw [hl5], by rw [hl5]; exact HC5.out, ?_, HBR.out⟩
        rw [← hiN, HAE.out]
        exact HOA.out)
      clear hot hiN
      go_wp2
      go_ret
      exact HF.out

def withV (rs : List (List Int)) (s τ k : Int) : List Int := if (tripB rs s τ && inR k 0 10) = true then withT (rs.map cp) s τ k.toNat else []
theorem withV_yes {rs : List (List Int)} {s τ k : Int} (h : (tripB rs s τ && inR k 0 10) = true) : withV rs s τ k = withT (rs.map cp) s τ k.toNat := by unfold withV; rw [if_pos h]
theorem withV_no {rs : List (List Int)} {s τ k : Int} (h : (tripB rs s τ && inR k 0 10) = false) : withV rs s τ k = [] := by unfold withV; rw [h]; rfl
end Go.Proofs.Ytimbkclhkepgfaa
