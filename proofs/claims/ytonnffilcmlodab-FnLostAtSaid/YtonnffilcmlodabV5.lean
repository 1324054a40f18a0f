/- The walk of the law FnLostIsNotArrived. No condition. -/
import Derived.Test.YtonnffilcmlodabV4
namespace Go.Proofs.Ytonnffilcmlodab
open Go.RowKit

theorem impLost_v (A : Option Addr) (c : Nat) (zs : List Int) (w : World) (V : List (Nat × Nat)) (b : Bool) (hr : Ints w w.heap.size A zs) (hl : zs.length ≤ 1000) (hq : lostQ zs = V) (hb : lostOk zs = b) :
    Calls Try.prog 14 #[.slice A zs.length c] w fun e w' => ∃ A c, e = .returned (.tuple #[.slice A V.length c, .bool b]) ∧ V.length ≤ c ∧ Own w' (w.heap.size + 1) w'.heap.size A (flatQ V) ∧ Below w.heap.size w w' := by
  have h := impLost_any A c zs w hr (by omega)
  rw [hq, hb] at h
  exact h
theorem specLost_v (A : Option Addr) (c : Nat) (zs : List Int) (w : World) (V : List (Nat × Nat)) (b : Bool) (hr : Ints w w.heap.size A zs) (hl : zs.length ≤ 1000) (hq : lostQ zs = V) (hb : lostOk zs = b) :
    Calls Try.prog 15 #[.slice A zs.length c] w fun e w' => ∃ A c, e = .returned (.tuple #[.slice A V.length c, .bool b]) ∧ V.length ≤ c ∧ Own w' (w.heap.size + 1) w'.heap.size A (flatQ V) ∧ Below w.heap.size w w' := by
  have h := specLost_any A c zs w hr (by omega)
  rw [hq, hb] at h
  exact h
theorem lostQ_short (h : List Int) : (lostQ h).length ≤ 5 := by
  unfold lostQ
  split
  · rename_i hv
    rw [lost_len]
    simp only [lostOk, Bool.and_eq_true] at hv
    exact (hops_of hv.1).2.2
  · simp
theorem fracOf_v (u d : Nat) (r1 r2 : Nat) (w : World) (hd0 : 0 < d) (hu : u ≤ 1000000000000) (hd : d ≤ 1000000000000) (hr : red u d = (r1, r2)) :
    Calls Try.prog 17 #[.int .i64 (u : Int), .int .i64 (d : Int)] w fun e w' => e = .returned (.agg #[.int .i64 (r1 : Int), .int .i64 (r2 : Int)]) ∧ Below w.heap.size w w' := by
  have h := fracOf_any u d w hd0 hu hd
  rw [hr] at h
  exact h

set_option maxRecDepth 100000 in
set_option maxHeartbeats 8000000 in
theorem lostIsNotArrived_law (A : Option Addr) (c : Nat) (zs : List Int) (v0 : World) (hr : Own v0 0 v0.heap.size A (zs.map (Value.int .u8))) (hx : zs.length ≤ c ∧ c ≤ maxLen ∧ ∀ z ∈ zs, (Lit.int .u8 z).wf = true) :
    Calls Try.prog 5 #[.slice A zs.length c] v0 fun e w' => e = .returned (.bool true) ∧ Below v0.heap.size v0 w' := by
  have hl : zs.length ≤ 9223372036854775807 := by have := hx.1; have := hx.2.1; unfold maxLen at this; omega
  have HX := Lib.hid hx
  clear hx
  by_cases h20 : zs.length ≤ 1048576
  · go_enter Try.func5, Try.ntmps5
    go_wp2_with fail
    refine (drawLostAt_any _ _ _ _ hr HX.out).mono ?_
    rintro e w ⟨B, d, ys, rfl, hy6, hyd, _, hrw, hb0⟩
    have HB0 := Lib.hid hb0
    have z00 := hb0.size
    have hq5 := lostQ_short ys
    obtain ⟨q, hq⟩ : ∃ q, lostQ ys = q := ⟨_, rfl⟩
    obtain ⟨b, hb⟩ : ∃ b, lostOk ys = b := ⟨_, rfl⟩
    rw [hq] at hq5
    have HQ := Lib.hid hq
    have HB := Lib.hid hb
    have HRW := Lib.hid hrw
    have e5 : (b != b) = false := by simp
    clear hq hb hb0 hrw hr
    go_wp2_with fail
    refine (impLost_v _ _ ys w q b HRW.out (by omega) HQ.out HB.out).mono ?_
    rintro e w1 ⟨A1, c1, rfl, hc1, o1, hb1⟩
    have HW1 := Lib.hid hb1
    have z1 := hb1.size
    clear hb1
    go_wp2_with fail
    refine (specLost_v _ _ ys w1 q b ((HRW.out.below HW1.out).more HW1.out.size) (by omega) HQ.out HB.out).mono ?_
    rintro e w2 ⟨A2, c2, rfl, hc2, o2, hb2⟩
    have HW2 := Lib.hid (HW1.out.trans (hb2.mono z1))
    have o12 := o1.keep (by omega) hb2
    have z2 := hb2.size
    clear hb2 o1
    go_wp2_with fail
    refine (equalFracs_self _ _ _ _ q w2 (o12.row.more (by omega)) (o2.row.more (by omega)) (by omega)).mono ?_
    rintro e w3 ⟨rfl, hb3⟩
    have HW3 := Lib.hid (HW2.out.trans (hb3.mono (by omega)))
    have z3 := hb3.size
    clear hb3 o12 o2
    go_wp2_with fail
    refine (impLost_v _ _ ys w3 q b ((HRW.out.below HW3.out).more HW3.out.size) (by omega) HQ.out HB.out).mono ?_
    rintro e w4 ⟨A4, c4, rfl, hc4, o4, hb4⟩
    have HW4 := Lib.hid (HW3.out.trans (hb4.mono (by omega)))
    have z4 := hb4.size
    clear hb4
    cases b with
    | false =>
      have hq0 : q.length = 0 := by rw [← HQ.out, lostQ_no HB.out]; rfl
      have t0 : ((q.length : Int) == 0) = true := by simp [hq0]
      clear hq0
      go_wp2_with fail
      go_ret
      exact ⟨rfl, HB0.out.trans (HW4.out.mono z00)⟩
    | true =>
      have hok := HB.out
      simp only [lostOk, Bool.and_eq_true, decide_eq_true_eq] at hok
      obtain ⟨hv, hpos⟩ := hok
      obtain ⟨h0, h1, h5⟩ := hops_of hv
      have hqlen : q.length = ys.length := by rw [← HQ.out, lostQ_yes HB.out, lost_len]
      have hq00 : q[0]'(by omega) = red (xL ys 0) (allL ys) := by
        have : q = lostL ys := by rw [← HQ.out, lostQ_yes HB.out]
        simp only [this, lostL, List.getElem_map, List.getElem_range]
      have hfirst := lost_first hpos (show 0 < ys.length by omega)
      have hadd := arr_bd h5
      have hlt12 := lost_some hpos
      have har2 : 0 < (arr ys).2 := by omega
      obtain ⟨a, ha⟩ : ∃ a, arr ys = a := ⟨_, rfl⟩
      rw [ha] at hfirst hadd hlt12 har2
      obtain ⟨a1, a2⟩ := a
      dsimp only at hfirst hadd hlt12 har2
      have HAQ := Lib.hid (show arrQ ys = (a1, a2) by rw [arrQ_yes hv, ha])
      have HHV := Lib.hid hv
      obtain ⟨f, hf⟩ : ∃ f, red (xL ys 0) (allL ys) = f := ⟨_, rfl⟩
      obtain ⟨g, hg⟩ : ∃ g, red (a2 - a1) a2 = g := ⟨_, rfl⟩
      have hxl := xL_le h0 (show 0 < ys.length by omega)
      have hal : allL ys ≤ 100000 := Nat.le_trans (Nat.sub_le _ _) (ten_le h5)
      have hfl := red_le (xL ys 0) (allL ys)
      have hfp := red_pos (u := xL ys 0) hpos
      have hgl := red_le (a2 - a1) a2
      have hgp := red_pos (u := a2 - a1) har2
      rw [hf] at hfirst hq00 hfl hfp
      rw [hg] at hfirst hgl hgp
      obtain ⟨f1, f2⟩ := f
      obtain ⟨g1, g2⟩ := g
      dsimp only at hfl hfp hgl hgp
      obtain ⟨b4, p4, rfl, hb4l, hc4c⟩ := o4.open (by rw [flatQ_length]; omega)
      obtain ⟨x0, x1⟩ := fracs_at hc4c (show 0 < q.length by omega)
      rw [hq00, Nat.zero_mul, Nat.add_zero] at x0 x1
      dsimp only at x0 x1
      obtain ⟨bb, oo, rfl, hbbl, hyc⟩ := HRW.out.open (by simp; omega)
      have hy0c := ints_at hyc (show 0 < ys.length by omega)
      have hyb := h0 _ (List.getElem_mem (show 0 < ys.length by omega))
      have hgd : ys.getD 0 0 = ys[0]'(by omega) := by rw [List.getD_eq_getElem?_getD, List.getElem?_eq_getElem (by omega)]; rfl
      rw [hgd] at hfirst
      obtain ⟨y, hy⟩ : ∃ y, ys[0]'(by omega) = y := ⟨_, rfl⟩
      rw [hy, Nat.add_zero] at hy0c
      rw [hy] at hfirst hyb
      obtain ⟨yn, rfl⟩ : ∃ yn : Nat, y = yn := ⟨y.toNat, by omega⟩
      rw [Int.toNat_natCast] at hfirst
      have hyn : yn ≤ 10 := by omega
      obtain ⟨r, hrr⟩ : ∃ r, red yn 10 = r := ⟨_, rfl⟩
      obtain ⟨r1, r2⟩ := r
      rw [hrr] at hfirst
      have HTI := Lib.hid (fun X => timesOf_any f1 f2 g1 g2 X (Nat.le_trans (Nat.mul_le_mul (show f1 ≤ 100000 by omega) (show g1 ≤ 100000 by omega)) (by decide)) (Nat.le_trans (Nat.mul_le_mul (show f2 ≤ 100000 by omega) (show g2 ≤ 100000 by omega)) (by decide)) (Nat.mul_pos hfp hgp))
      rw [hfirst] at HTI
      unfold frV at HTI
      dsimp only at HTI
      have HFO := Lib.hid (fun X => show Calls Try.prog 17 #[.int .i64 (yn : Int), .int .i64 10] X fun e w' => e = .returned (.agg #[.int .i64 (r1 : Int), .int .i64 (r2 : Int)]) ∧ Below X.heap.size X w' from fracOf_v yn 10 r1 r2 X (by omega) (by omega) (by omega) hrr)
      obtain ⟨t, ht⟩ : ∃ t, a2 - a1 = t := ⟨_, rfl⟩
      rw [ht] at hg
      have HFG := Lib.hid (fun X => fracOf_v t a2 g1 g2 X har2 (by omega) (by omega) hg)
      have e10 : (a2 : Int) - (a1 : Int) = (t : Int) := by omega
      have e3 : (((r1 : Int)) == (r1 : Int)) = true := by simp
      have e4 : (((r2 : Int)) == (r2 : Int)) = true := by simp
      have HLX := Lib.hid (And.intro x0 x1)
      have HYC := Lib.hid hy0c
      have hposI : (0 : Int) < (ys.length : Int) := by omega
      have hposQ : (0 : Int) < (q.length : Int) := by omega
      have tq0 : ((q.length : Int) == 0) = false := beq_eq_false_iff_ne.2 (by omega)
      clear hc4c hyc hgd hy hyb hrr hg hf hfirst hq00 hfl hfp hgl hgp hxl hal h0 ha o4 x0 x1 hy0c e5 ht
      go_wp2_with fail
      refine (impArr_v _ _ _ ys w4 a1 a2 true ((HRW.out.below HW4.out).more HW4.out.size) rfl (by omega) HAQ.out HHV.out).mono ?_
      rintro e w5 ⟨rfl, hb5⟩
      have hb6 := hb5.trans ((belQ w5 (.cells #[.int .i64 (a1 : Int), .int .i64 (a2 : Int)] 26)).mono hb5.size)
      have HB6 := Lib.hid hb6
      have HV10 := Lib.hid (boxQ w5 a1 a2)
      obtain ⟨W6, hW6⟩ : ∃ W6, w5.alloc (.cells #[.int .i64 (a1 : Int), .int .i64 (a2 : Int)] 26) = W6 := ⟨_, rfl⟩
      rw [hW6] at HB6 HV10
      obtain ⟨a0, a1', _, _, _⟩ := HV10.out
      dsimp only at a0 a1'
      clear hb5 hb6
      go_wp2_with fail
      refine (HFG.out _).mono ?_
      rintro e w7 ⟨rfl, hb7⟩
      have hb8 := HB6.out.trans ((hb7.trans ((belQ w7 (.cells #[.int .i64 (g1 : Int), .int .i64 (g2 : Int)] 26)).mono hb7.size)).mono HB6.out.size)
      have HB8 := Lib.hid hb8
      have HV12 := Lib.hid (boxQ w7 g1 g2)
      obtain ⟨W8, hW8⟩ : ∃ W8, w7.alloc (.cells #[.int .i64 (g1 : Int), .int .i64 (g2 : Int)] 26) = W8 := ⟨_, rfl⟩
      rw [hW8] at HB8 HV12
      have HBE := Lib.hid (HB0.out.trans ((HW4.out.trans (HB8.out.mono HW4.out.size)).mono z00))
      have HBE8 := Lib.hid (HW4.out.trans (HB8.out.mono HW4.out.size))
      have hkeep : ∀ X, Below W8.heap.size W8 X → (X.cell? ⟨w7.heap.size, 0, none⟩ = some (.int .i64 (g1 : Int)) ∧ X.cell? ⟨w7.heap.size, 1, none⟩ = some (.int .i64 (g2 : Int))) ∧ (X.cell? ⟨b4, p4, none⟩ = some (.int .i64 (f1 : Int)) ∧ X.cell? ⟨b4, p4 + 1, none⟩ = some (.int .i64 (f2 : Int))) ∧ X.cell? ⟨bb, oo, none⟩ = some (.int .i64 (yn : Int)) := fun X hX => by
        have h1 := HV12.out.keep hX HV12.out.2.2.2.2
        have h2 := HB8.out.trans (hX.mono HB8.out.size)
        have h3 := HBE8.out.trans (hX.mono HBE8.out.size)
        exact ⟨⟨h1.1, h1.2.1⟩, ⟨keepF h2 hb4l HLX.out.1, keepF h2 hb4l HLX.out.2⟩, keepF h3 hbbl HYC.out⟩
      have HK := Lib.hid hkeep
      obtain ⟨⟨k0, k1⟩, ⟨k2, k3⟩, k4⟩ := hkeep W8 (Below.refl _ _)
      clear hb7 hb8 hW6 a0 a1' hkeep
      go_wp2_with fail
      go_region_with (first | (go_at_call 12; (refine (HTI.out _).mono ?_); rintro e w9 ⟨rfl, hb9⟩; have q9 : Below W8.heap.size W8 w9 := Below.trans (by first | exact Q10.out | exact Below.refl _ _ | exact below_drewF (Below.refl _ _)) (hb9.mono (by first | exact Q10.out.size | exact Nat.le_refl _)); have Q9 := Lib.hid q9; obtain ⟨⟨t0, t1⟩, ⟨t2, t3⟩, t4⟩ := HK.out w9 q9; clear hb9 q9) | (go_at_call 17; (refine (HFO.out _).mono ?_); rintro e w10 ⟨rfl, hb10⟩; have q10 : Below W8.heap.size W8 w10 := Below.trans (by first | exact Q9.out | exact Below.refl _ _ | exact below_drewF (Below.refl _ _)) (hb10.mono (by first | exact Q9.out.size | exact Nat.le_refl _)); have Q10 := Lib.hid q10; obtain ⟨⟨u0, u1⟩, ⟨u2, u3⟩, u4⟩ := HK.out w10 q10; clear hb10 q10))
      all_goals
        go_wp2
        go_ret
        exact ⟨rfl, by first | exact HBE.out.trans (Q10.out.mono HBE.out.size) | exact HBE.out.trans (Q9.out.mono HBE.out.size) | exact below_drewF (HBE.out.trans (Q10.out.mono HBE.out.size)) | exact below_drewF (HBE.out.trans (Q9.out.mono HBE.out.size))⟩
  · go_enter Try.func5, Try.ntmps5
    go_wp2
    go_ret
    exact ⟨rfl, Below.refl _ _⟩
end Go.Proofs.Ytonnffilcmlodab
