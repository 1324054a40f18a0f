/- Hops: impl.LostAt. No condition. -/
import Derived.Test.YtonnffilcmlodabVs
namespace Go.Proofs.Ytonnffilcmlodab
open Go.RowKit

def lostPart (zs : List Int) (k : Nat) : List (Nat × Nat) := tabQ zs.length fun i => if i < k then red (xL zs i) (allL zs) else (0, 0)
theorem lostPart_zero (zs : List Int) : lostPart zs 0 = tabQ zs.length fun _ => (0, 0) := tabQ_congr fun i _ => by rw [if_neg (by omega)]
theorem lostPart_end (zs : List Int) : lostPart zs zs.length = lostL zs := by
  unfold lostPart lostL tabQ
  exact List.map_congr_left fun i hi => by rw [if_pos (List.mem_range.1 hi)]
theorem lostPart_set (zs : List Int) (k : Nat) : (lostPart zs k).set k (red (xL zs k) (allL zs)) = lostPart zs (k + 1) := by
  unfold lostPart
  exact tabQ_set fun j _ => by
    by_cases e : j = k
    · subst e; rw [if_pos (by omega), if_pos rfl]
    · rw [if_neg e]
      by_cases h : j < k
      · rw [if_pos h, if_pos (by omega)]
      · rw [if_neg h, if_neg (by omega)]
theorem lostPart_len (zs : List Int) (k : Nat) : (lostPart zs k).length = zs.length := by unfold lostPart; rw [tabQ_len]
theorem arr_bd {zs : List Int} (h5 : zs.length ≤ 5) : (arr zs).2 ≤ 100000 := Nat.le_trans (red_le _ _).2 (ten_le h5)
/-- What stands when a hop is told. -/
def HopAt (b6 bp g2 k : Nat) (q p : Nat × Nat) (X : World) : Prop :=
  (X.cell? ⟨b6, 0, none⟩ = some (.int .i64 (q.1 : Int)) ∧ X.cell? ⟨b6, 1, none⟩ = some (.int .i64 (q.2 : Int))) ∧ (X.cell? ⟨bp, 0, none⟩ = some (.int .i64 (p.1 : Int)) ∧ X.cell? ⟨bp, 1, none⟩ = some (.int .i64 (p.2 : Int))) ∧
  ∃ v0 v1, X.cell? ⟨g2, k * 2, none⟩ = some v0 ∧ X.cell? ⟨g2, k * 2 + 1, none⟩ = some v1 ∧ X.frozen? ⟨g2, k * 2, none⟩ = false ∧ X.frozen? ⟨g2, k * 2 + 1, none⟩ = false

set_option maxRecDepth 100000 in
set_option maxHeartbeats 8000000 in
theorem impLost_any (A : Option Addr) (c : Nat) (zs : List Int) (w : World) (hr : Ints w w.heap.size A zs) (hl : zs.length ≤ 9000000000000000000) :
    Calls Try.prog 14 #[.slice A zs.length c] w (qRes w (lostQ zs) (lostOk zs)) := by
  obtain ⟨j0, hj0, hy0, hy1, hy2⟩ := info_parts Try.infoFr
  have HV := Lib.hid (impArrive_any A c zs w hr hl)
  by_cases hv : hopsB zs = true
  · obtain ⟨h0, h1, h5⟩ := hops_of hv
    have HAQ := Lib.hid (arrQ_yes hv)
    rw [hv, HAQ.out] at HV
    have HOK := Lib.hid (show lostOk zs = decide (0 < allL zs) by rw [lostOk, hv, Bool.true_and])
    have HH := Lib.hid h0
    have HR := Lib.hid hr
    have had := arr_bd h5
    by_cases hz : allL zs = 0
    · have HF := Lib.hid (show lostOk zs = false by rw [HOK.out, hz]; rfl)
      have HUD := Lib.hid (lost_none hz)
      obtain ⟨a, ha⟩ : ∃ a, arr zs = a := ⟨_, rfl⟩
      rw [ha] at HV HUD had
      obtain ⟨a1, a2⟩ := a
      dsimp only at had
      have hud : a1 = a2 := HUD.out
      subst hud
      unfold frV at HV
      dsimp only at HV
      have t0 : ((a1 : Int) == (a1 : Int)) = true := by simp
      clear hv h0 hr ha hz HUD
      go_enter Try.func14, Try.ntmps14
      go_wp2_with (go_at_call 9; (with_reducible refine HV.out.mono ?_); rintro e w2 ⟨rfl, hb2⟩)
      go_ret2
      exact qRes_none (lostQ_no HF.out) HF.out (hb2.alloc hb2.size _)
    · have hpos : 0 < allL zs := by omega
      have HF := Lib.hid (show lostOk zs = true by rw [HOK.out]; exact decide_eq_true hpos)
      have HFQ := Lib.hid (show lostQ zs = lostL zs from lostQ_yes HF.out)
      have hlt12 := lost_some hpos
      have HIS := Lib.hid (fun (h : Nat) (hh : h < zs.length) (y : Nat) (hy : (zs[h]).toNat = y) => lost_is h0 hpos hh hy)
      obtain ⟨a, ha⟩ : ∃ a, arr zs = a := ⟨_, rfl⟩
      rw [ha] at HV hlt12 had HIS
      obtain ⟨a1, a2⟩ := a
      dsimp only at had hlt12 HIS
      have HOT := Lib.hid (fun X => otherwise_any a1 a2 X (by omega) (by omega))
      obtain ⟨d, hd⟩ : ∃ d, a2 - a1 = d := ⟨_, rfl⟩
      have hd1 : 1 ≤ d := by omega
      have hd2 : d ≤ 100000 := by omega
      rw [hd] at HOT HIS
      have HTU := Lib.hid (fun X => turned_any d a2 X)
      unfold frV at HV HOT HTU
      dsimp only at HV HOT HTU
      have t0 : ((a1 : Int) == (a2 : Int)) = false := by simp; omega
      clear hv hr ha hz hd h0
      go_enter Try.func14, Try.ntmps14
      go_wp2_with (go_at_call 9; (with_reducible refine HV.out.mono ?_); rintro e w2 ⟨rfl, hb2⟩)
      refine (HOT.out _).mono ?_
      rintro e w3 ⟨rfl, hb3⟩
      go_wp2_with fail
      refine (HTU.out _).mono ?_
      rintro e w4 ⟨rfl, hb4⟩
      have hb24 : Below w.heap.size w w4 := (hb2.trans ((((Below.refl _ _).alloc (Nat.le_refl _) _ : Below w2.heap.size w2 (w2.alloc (.cells #[.int .i64 (a1 : Int), .int .i64 (a2 : Int)] 26))).trans (hb3.mono (by simp))).trans (hb4.mono (Nat.le_trans (by simp) hb3.size)) |>.mono hb2.size))
      have hz4 := hb24.size
      have hV6 := VarQ.of (heap_alloc_new w4 (.cells #[.int .i64 (a2 : Int), .int .i64 (d : Int)] 26)) (q := (a2, d))
      have hbA : Below w4.heap.size w4 (w4.alloc (.cells #[.int .i64 (a2 : Int), .int .i64 (d : Int)] 26)) := (Below.refl _ _).alloc (Nat.le_refl _) _
      have HB5 := Lib.hid (hb24.trans (hbA.mono hz4))
      have HPS := Lib.hid (passesOf_any A c zs (w4.alloc (.cells #[.int .i64 (a2 : Int), .int .i64 (d : Int)] 26)) ((HR.out.below HB5.out).more HB5.out.size) h5 HH.out)
      have HV6 := Lib.hid hV6
      obtain ⟨W5, hW5⟩ : ∃ W5, w4.alloc (.cells #[.int .i64 (a2 : Int), .int .i64 (d : Int)] 26) = W5 := ⟨_, rfl⟩
      rw [hW5] at HB5 HPS HV6
      obtain ⟨b6, hb6⟩ : ∃ b6, w4.heap.size = b6 := ⟨_, rfl⟩
      rw [hb6] at HV6 hz4
      clear hV6 hbA hb2 hb3 hb4 hb24
      go_wp2_with fail
      refine HPS.out.mono ?_
      rintro e w7 ⟨c1, g1, rfl, ho7, hb7⟩
      have hcap := own_cap ho7
      have hg17 := (ho7.lt g1 rfl).2
      have HP7 := Lib.hid (row_of_ownQ ho7 (by rw [passL_len]))
      have HV7 := Lib.hid (HV6.out.keep hb7 HV6.out.2.2.2.2)
      have HB7 := Lib.hid (HB5.out.trans (hb7.mono HB5.out.size))
      have hbz7 := HB7.out.size
      have ho7b := ho7
      clear ho7 hb7 ho7b hW5
      go_wp2_with (at_make; refine wpList_make_full _ rfl (.tmp 31) (.tmp 31) _ rfl w7.heap.size 26 j0 (.agg #[.int .i64 0, .int .i64 0]) 2 Try.underlying32 hj0 hy0 hy1 _ _ _ _ zs.length rfl rfl rfl rfl (by rw [hy2]; omega) (by unfold maxLen; omega) (Nat.le_refl _) ?_)
      intro w8 hown8 hg8
      have hb8 : Below w7.heap.size w7 w8 := (Below.refl _ _).grown hg8 (Nat.le_refl _) (by simp)
      have HST := Lib.hid (show w8.ownsRow w7.heap.size 26 2 (.slice (some ⟨w7.heap.size, 0, none⟩) zs.length zs.length) zs.length (flatQ (lostPart zs 0)) by
        have h1 := hown8
        rw [made2 h5] at h1
        rw [lostPart_zero]; exact h1)
      have HB8 := Lib.hid hb8
      clear hown8 hg8 hb8
      go_wp2
      go_loopw [35] (fun i wr => ∃ k : Nat, k ≤ zs.length ∧ i = .int .i64 k ∧ wr.ownsRow w7.heap.size 26 2 (.slice (some ⟨w7.heap.size, 0, none⟩) zs.length zs.length) zs.length (flatQ (lostPart zs k)) ∧ Below w7.heap.size w7 wr) (fun i _ => zs.length - (intOf i).toNat)
      case atStart => exact ⟨0, by omega, rfl, HST.out, HB8.out⟩
      case round =>
        obtain ⟨k, hk, rfl, hown, hbr⟩ := hrel
        clear HST HB8
        have HO := Lib.hid hown
        have HBR := Lib.hid hbr
        have hbz := hbr.size
        have hg2w := (hown.lt w7.heap.size rfl).2
        by_cases hlt : k < zs.length
        · obtain ⟨b, o, hgo, hb, hc⟩ := (HP7.out.below hbr).open (by rw [flatQ_length, passL_len]; omega)
          simp only [Option.some.injEq, Addr.mk.injEq, and_true] at hgo
          obtain ⟨rfl, rfl⟩ := hgo
          obtain ⟨p0, p1⟩ := fracs_at hc (show k < (passL zs).length by rw [passL_len]; exact hlt)
          rw [passL_get hlt, Nat.zero_add] at p0 p1
          have HISK := Lib.hid (HIS.out k hlt)
          have HLS := Lib.hid (lostPart_set zs k)
          have hzk := HH.out _ (List.getElem_mem hlt)
          have HTK := Lib.hid (show Own wr 0 w7.heap.size (some ⟨g1, 0, none⟩) (flatQ (passL (zs.take k))) by
            have h1 := (HP7.out.below hbr).take (k * 2)
            have e : (flatQ (passL zs)).take (k * 2) = flatQ (passL (zs.take k)) := by
              have h2 := flatQ_append ((passL zs).take k) ((passL zs).drop k)
              rw [List.take_append_drop] at h2
              rw [h2, List.take_append_of_le_length (by rw [flatQ_length, List.length_take, passL_len]; omega), List.take_of_length_le (by rw [flatQ_length, List.length_take]; omega), passL_take]
            rw [e] at h1; exact h1)
          obtain ⟨y, hy⟩ : ∃ y, (zs[k]).toNat = y := ⟨_, rfl⟩
          have hy10 : y ≤ 10 := by omega
          have HISY := Lib.hid (HISK.out y hy)
          rw [hy] at p0 p1
          have hpp := red_le (10 - y) 10
          have hp2 := red_pos (u := 10 - y) (d := 10) (by omega)
          have hp12 : (red (10 - y) 10).1 ≤ (red (10 - y) 10).2 := by
            unfold red; exact Nat.div_le_div_right (by omega)
          obtain ⟨pq, hpq⟩ : ∃ pq, red (10 - y) 10 = pq := ⟨_, rfl⟩
          rw [hpq] at p0 p1 HISY hpp hp2 hp12
          obtain ⟨pp, pd⟩ := pq
          dsimp only at p0 p1 HISY hpp hp2 hp12
          obtain ⟨f, hf⟩ : ∃ f, pd - pp = f := ⟨_, rfl⟩
          have HOP := Lib.hid (fun X => otherwise_any pp pd X hp12 (by omega))
          rw [hf] at HOP HISY
          have hf10 : f ≤ 10 := by omega
          have hpd10 : pd ≤ 10 := by omega
          have hb1 : a2 * f ≤ 100000 * 10 := Nat.mul_le_mul had hf10
          have hb2 : d * pd ≤ 100000 * 10 := Nat.mul_le_mul hd2 hpd10
          have hb3 : 0 < d * pd := Nat.mul_pos hd1 hp2
          have HTI := Lib.hid (fun X => times_any a2 d f pd X (by omega) (by omega) hb3)
          have HFT := Lib.hid (fit_pass (u := a2 * f) (d := d * pd) (zs := zs.take k) hb3 (by omega) (by omega) (by rw [List.length_take]; omega))
          have hMU : mulF (a2, d) (f, pd) = red (a2 * f) (d * pd) := rfl
          rw [← hMU] at HFT
          obtain ⟨m, hm⟩ : ∃ m, mulF (a2, d) (f, pd) = m := ⟨_, rfl⟩
          rw [hm] at HTI HISY HFT
          obtain ⟨m1, m2⟩ := m
          obtain ⟨r, hr⟩ : ∃ r, red (xL zs k) (allL zs) = r := ⟨_, rfl⟩
          rw [hr] at HISY HLS
          obtain ⟨r1, r2⟩ := r
          have hl2 : (zs.take k).length = k := by rw [List.length_take]; omega
          have HPR := Lib.hid (fun X (hX : Below wr.heap.size wr X) => show Calls Try.prog 32 #[.agg #[.int .i64 (m1 : Int), .int .i64 (m2 : Int)], .slice (some ⟨g1, 0, none⟩) k c1] X fun e w' => e = .returned (.agg #[.int .i64 (r1 : Int), .int .i64 (r2 : Int)]) ∧ Below X.heap.size X w' from by
            have h := productOf_any m1 m2 (some ⟨g1, 0, none⟩) k c1 (passL (zs.take k)) X (((HTK.out.more hbz).below hX).more hX.size) (by rw [passL_len, hl2]) (by rw [passL_len, hl2]; omega) HFT.out
            rw [show prodQ (m1, m2) (passL (zs.take k)) = (r1, r2) from HISY.out] at h
            exact h)
          unfold frV at HOP HTI
          dsimp only at HOP HTI
          have hsl := fun X => slice_uptoF g1 0 zs.length c1 k (by omega) X
          have hbelA : Below wr.heap.size wr (wr.alloc (.cells #[.int .i64 (pp : Int), .int .i64 (pd : Int)] 26)) := (Below.refl _ _).alloc (Nat.le_refl _) _
          have hkI : (k : Int) < (zs.length : Int) := by omega
          have hk0 : (0 : Int) ≤ (k : Int) := by omega
          have HVP := Lib.hid (VarQ.of (heap_alloc_new wr (.cells #[.int .i64 (pp : Int), .int .i64 (pd : Int)] 26)) (q := (pp, pd)))
          have HBA := Lib.hid hbelA
          have HVB := Lib.hid (HV7.out.keep hbr HV7.out.2.2.2.2)
          have hV6lt : b6 < wr.heap.size := HVB.out.2.2.2.2
          obtain ⟨Wa, hWa⟩ : ∃ Wa, wr.alloc (.cells #[.int .i64 (pp : Int), .int .i64 (pd : Int)] 26) = Wa := ⟨_, rfl⟩
          rw [hWa] at HVP HBA
          have hWz : Wa.heap.size = wr.heap.size + 1 := by rw [← hWa]; simp
          have hkeep : ∀ X, Below Wa.heap.size Wa X → HopAt b6 wr.heap.size w7.heap.size k (a2, d) (pp, pd) X := fun X hX => by
            have h6 := (HVB.out.keep HBA.out hV6lt).keep hX (by omega)
            have hp := HVP.out.keep hX (by omega)
            have hbX := HBA.out.trans (hX.mono (by omega))
            have ho := own_keepF HO.out hbX
            have k0 := ho.cellAt (k * 2) (by omega)
            have k1 := ho.cellAt (k * 2 + 1) (by omega)
            rw [List.getElem?_eq_getElem (by rw [flatQ_length, lostPart_len]; omega)] at k0 k1
            exact ⟨⟨h6.1, h6.2.1⟩, ⟨hp.1, hp.2.1⟩, _, _, k0, k1, ho.frozenAt _, ho.frozenAt _⟩
          have HK := Lib.hid hkeep
          obtain ⟨⟨s0, s1⟩, ⟨s2, s3⟩, v0, v1, s4, s5, s6, s7⟩ := hkeep Wa (Below.refl _ _)
          dsimp only at s0 s1 s2 s3
          clear hc hzk hy hpp hp2 hp12 hpq hf hb1 hb2 hb3 hMU hm hr hown hbr hbelA hkeep
          go_wp2_with fail
          go_region_with (first | (go_at_call 36; (refine (HOP.out _).mono ?_); rintro e w10 ⟨rfl, hb10⟩; have q10 : Below Wa.heap.size Wa w10 := Below.trans (by first | exact Below.refl _ _ | exact below_drewF (Below.refl _ _)) hb10; have Q10 := Lib.hid q10; obtain ⟨⟨t0, t1⟩, ⟨t2, t3⟩, x0, x1, t4, t5, t6, t7⟩ := HK.out w10 q10; dsimp only at t0 t1 t2 t3; clear hb10 q10) | (go_at_call 38; (refine (HTI.out _).mono ?_); rintro e w11 ⟨rfl, hb11⟩; have q11 : Below Wa.heap.size Wa w11 := Q10.out.trans (hb11.mono Q10.out.size); have Q11 := Lib.hid q11; obtain ⟨⟨t0, t1⟩, ⟨t2, t3⟩, x0, x1, t4, t5, t6, t7⟩ := HK.out w11 q11; dsimp only at t0 t1 t2 t3; clear hb11 q11) | (go_at_call 32; (refine (HPR.out _ (HBA.out.trans (Q11.out.mono HBA.out.size))).mono ?_); rintro e w12 ⟨rfl, hb12⟩; have q12 : Below Wa.heap.size Wa w12 := Q11.out.trans (hb12.mono Q11.out.size); have Q12 := Lib.hid q12; obtain ⟨⟨t0, t1⟩, ⟨t2, t3⟩, x0, x1, t4, t5, t6, t7⟩ := HK.out w12 q12; dsimp only at t0 t1 t2 t3; clear hb12 q12))
          all_goals
            have hbX := HBA.out.trans (Q12.out.mono HBA.out.size)
            have ho12 := own_keepF HO.out hbX
            have hst := own_storeQ ho12 k (r1, r2)
            rw [HLS.out] at hst
            have HW := Lib.hid (And.intro hst.1 ((HBR.out.trans (hbX.mono hbz)).grown hst.2 (Nat.le_trans hbz hbX.size) (fun i hi => by injection hi with hi; omega)))
            clear hst ho12 hbX
            go_wp2_with fail
            go_roundw
            case rel => exact ⟨k + 1, by omega, by go_num, by first | exact HW.out.1 | exact HW.out.1.drew, by first | exact HW.out.2 | exact below_drewF HW.out.2⟩
            case measure => simp [intOf]; omega
        · have hke : k = zs.length := by omega
          have HFIN := Lib.hid (show qRes w (lostQ zs) (lostOk zs) (.returned (.tuple #[.slice (some ⟨w7.heap.size, 0, none⟩) zs.length zs.length, .bool true])) wr by
            rw [HF.out, HFQ.out]
            rw [hke, lostPart_end] at hown
            exact qRes_row (own_lessF hown hbz7) (by rw [lost_len]) (HB7.out.trans (HBR.out.mono hbz7)))
          clear hown hbr hke
          go_wp2
          go_ret2
          exact HFIN.out
  · have hv' : hopsB zs = false := by simpa using hv
    have HAQ := Lib.hid (arrQ_no hv')
    rw [hv', HAQ.out] at HV
    unfold frV at HV
    dsimp only at HV
    have HF := Lib.hid (show lostOk zs = false by rw [lostOk, hv', Bool.false_and])
    clear hv hv'
    go_enter Try.func14, Try.ntmps14
    go_wp2_with (go_at_call 9; (with_reducible refine HV.out.mono ?_); rintro e w2 ⟨rfl, hb2⟩)
    go_ret2
    exact qRes_none (lostQ_no HF.out) HF.out (hb2.alloc hb2.size _)
end Go.Proofs.Ytonnffilcmlodab
