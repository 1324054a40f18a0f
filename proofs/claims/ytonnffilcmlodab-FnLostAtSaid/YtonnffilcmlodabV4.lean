/- The walk of the law FnArriveChance. No condition. -/
import Derived.Test.YtonnffilcmlodabVz
import Derived.Test.YtonnffilcmlodabVr
namespace Go.Proofs.Ytonnffilcmlodab
open Go.RowKit

theorem slice_uptoH (b o n c j : Nat) (h : j ≤ c) (W : World) :
    (Instr.slice 23 (.slice (some ⟨b, o, none⟩) n c) none (some (.int .i64 (j : Int))) none).run Try.prog W = .ok (.slice (some ⟨b, o, none⟩) j c) W := by
  have h1 : (0 : Int) ≤ (j : Int) := by omega
  have h2 : (j : Int) ≤ (c : Int) := by omega
  go_simp
theorem slice_fromH (b o n c j : Nat) (h : j < n) (hc : n ≤ c) (W : World) :
    (Instr.slice 23 (.slice (some ⟨b, o, none⟩) n c) (some (.int .i64 (j : Int))) none none).run Try.prog W = .ok (.slice (some ⟨b, o + j, none⟩) (n - j) (c - j)) W := by
  have h1 : (0 : Int) ≤ (j : Int) := by omega
  have h2 : (j : Int) ≤ (n : Int) := by omega
  have h4 : ¬ c = j := by omega
  go_simp
theorem hops_take {zs : List Int} (h : hopsB zs = true) {k : Nat} (h1 : 1 ≤ k) (hk : k ≤ zs.length) : hopsB (zs.take k) = true := by
  obtain ⟨a, b, c⟩ := hops_of h
  exact hops_mk (fun z hz => a z (List.mem_of_mem_take hz)) (by rw [List.length_take]; omega) (by rw [List.length_take]; omega)
theorem hops_drop {zs : List Int} (h : hopsB zs = true) {k : Nat} (hk : k < zs.length) : hopsB (zs.drop k) = true := by
  obtain ⟨a, b, c⟩ := hops_of h
  exact hops_mk (fun z hz => a z (List.mem_of_mem_drop hz)) (by rw [List.length_drop]; omega) (by rw [List.length_drop]; omega)
theorem arr_cut {zs : List Int} (k : Nat) : mulF (arr (zs.take k)) (arr (zs.drop k)) = arr zs := by rw [arr_app, List.take_append_drop]
/-- ArriveChance, the parts told. -/
theorem impArr_v (A : Option Addr) (c n : Nat) (zs : List Int) (w : World) (q1 q2 : Nat) (b : Bool) (hr : Ints w w.heap.size A zs) (hn : n = zs.length) (hl : zs.length ≤ 1000) (hq : arrQ zs = (q1, q2)) (hb : hopsB zs = b) :
    Calls Try.prog 9 #[.slice A n c] w fun e w' => e = .returned (.tuple #[.agg #[.int .i64 (q1 : Int), .int .i64 (q2 : Int)], .bool b]) ∧ Below w.heap.size w w' := by
  subst hn
  have h := impArrive_any A c zs w hr (by omega)
  rw [hq, hb] at h
  exact h
theorem specArr_v (A : Option Addr) (c n : Nat) (zs : List Int) (w : World) (q1 q2 : Nat) (b : Bool) (hr : Ints w w.heap.size A zs) (hn : n = zs.length) (hl : zs.length ≤ 1000) (hq : arrQ zs = (q1, q2)) (hb : hopsB zs = b) :
    Calls Try.prog 10 #[.slice A n c] w fun e w' => e = .returned (.tuple #[.agg #[.int .i64 (q1 : Int), .int .i64 (q2 : Int)], .bool b]) ∧ Below w.heap.size w w' := by
  subst hn
  have h := specArrive_any A c zs w hr (by omega)
  rw [hq, hb] at h
  exact h
theorem boxQ (w : World) (q1 q2 : Nat) : VarQ (w.alloc (.cells #[.int .i64 (q1 : Int), .int .i64 (q2 : Int)] 26)) w.heap.size (q1, q2) := VarQ.of (heap_alloc_new _ _)
theorem belQ (w : World) (o : Obj) : Below w.heap.size w (w.alloc o) := (Below.refl _ _).alloc (Nat.le_refl _) _

set_option maxRecDepth 100000 in
set_option maxHeartbeats 8000000 in
theorem arriveChance_law (A : Option Addr) (c : Nat) (zs : List Int) (v0 : World) (hr : Own v0 0 v0.heap.size A (zs.map (Value.int .u8))) (hx : zs.length ≤ c ∧ c ≤ maxLen ∧ ∀ z ∈ zs, (Lit.int .u8 z).wf = true) :
    Calls Try.prog 3 #[.slice A zs.length c] v0 fun e w' => e = .returned (.bool true) ∧ Below v0.heap.size v0 w' := by
  have hl : zs.length ≤ 9223372036854775807 := by have := hx.1; have := hx.2.1; unfold maxLen at this; omega
  have HX := Lib.hid hx
  clear hx
  by_cases h20 : zs.length ≤ 1048576
  · go_enter Try.func3, Try.ntmps3
    go_wp2_with fail
    refine (drawArriveChance_any _ _ _ _ hr HX.out).mono ?_
    rintro e w ⟨B, d, ys, rfl, hy6, hyd, _, hrw, hb0⟩
    have HB0 := Lib.hid hb0
    have z00 := hb0.size
    obtain ⟨q, hq⟩ : ∃ q, arrQ ys = q := ⟨_, rfl⟩
    obtain ⟨b, hb⟩ : ∃ b, hopsB ys = b := ⟨_, rfl⟩
    obtain ⟨q1, q2⟩ := q
    have HQ := Lib.hid hq
    have HB := Lib.hid hb
    have HRW := Lib.hid hrw
    have e1 : (((q1 : Int)) != (q1 : Int)) = false := by simp
    have e2 : (((q2 : Int)) != (q2 : Int)) = false := by simp
    have e3 : (((q1 : Int)) == (q1 : Int)) = true := by simp
    have e4 : (((q2 : Int)) == (q2 : Int)) = true := by simp
    have e5 : (b != b) = false := by simp
    have e6 : (b == b) = true := by simp
    clear hq hb hb0 hrw hr
    go_wp2_with fail
    refine (impArr_v _ _ _ ys w q1 q2 b HRW.out rfl (by omega) HQ.out HB.out).mono ?_
    rintro e w1 ⟨rfl, hb1⟩
    have HW2 := Lib.hid (hb1.trans ((belQ w1 (.cells #[.int .i64 (q1 : Int), .int .i64 (q2 : Int)] 26)).mono hb1.size))
    have HV4 := Lib.hid (boxQ w1 q1 q2)
    obtain ⟨W2, hW2⟩ : ∃ W2, w1.alloc (.cells #[.int .i64 (q1 : Int), .int .i64 (q2 : Int)] 26) = W2 := ⟨_, rfl⟩
    rw [hW2] at HW2 HV4
    clear hb1
    go_wp2_with fail
    refine (specArr_v _ _ _ ys W2 q1 q2 b ((HRW.out.below HW2.out).more HW2.out.size) rfl (by omega) HQ.out HB.out).mono ?_
    rintro e w3 ⟨rfl, hb3⟩
    have hb34 := hb3.trans ((belQ w3 (.cells #[.int .i64 (q1 : Int), .int .i64 (q2 : Int)] 26)).mono hb3.size)
    have HW4 := Lib.hid (HW2.out.trans (hb34.mono HW2.out.size))
    have HV6 := Lib.hid (boxQ w3 q1 q2)
    have HV44 := Lib.hid (HV4.out.keep hb34 HV4.out.2.2.2.2)
    obtain ⟨W4, hW4⟩ : ∃ W4, w3.alloc (.cells #[.int .i64 (q1 : Int), .int .i64 (q2 : Int)] 26) = W4 := ⟨_, rfl⟩
    rw [hW4] at HW4 HV6 HV44
    obtain ⟨a0, a1, _, _, _⟩ := HV44.out
    obtain ⟨b0, b1, _, _, _⟩ := HV6.out
    dsimp only at a0 a1 b0 b1
    clear hb3 hb34 hW2
    cases b with
    | false =>
      go_wp2_with fail
      go_ret
      exact ⟨rfl, HB0.out.trans (HW4.out.mono z00)⟩
    | true =>
      obtain ⟨h0, h1, h5⟩ := hops_of HB.out
      go_wp2_with fail
      refine (backwards_any _ _ ys W4 ((HRW.out.below HW4.out).more HW4.out.size) (by omega)).mono ?_
      rintro e w5 ⟨A5, c5, rfl, hc5, or5, hb5⟩
      have HQR := Lib.hid (show arrQ ys.reverse = (q1, q2) by rw [arrQ_yes (hops_rev HB.out), arr_rev, ← arrQ_yes HB.out]; exact HQ.out)
      have HBR := Lib.hid (hops_rev HB.out)
      go_wp2_with fail
      refine (impArr_v _ _ _ ys.reverse w5 q1 q2 true (or5.row.more (by omega)) (by simp) (by simp; omega) HQR.out HBR.out).mono ?_
      rintro e w6 ⟨rfl, hb6⟩
      have hb46 := (hb5.trans (hb6.mono hb5.size)).trans ((belQ w6 (.cells #[.int .i64 (q1 : Int), .int .i64 (q2 : Int)] 26)).mono (Nat.le_trans hb5.size hb6.size))
      have HW7 := Lib.hid (HW4.out.trans (hb46.mono HW4.out.size))
      have HV8 := Lib.hid (boxQ w6 q1 q2)
      have HV47 := Lib.hid (HV44.out.keep hb46 HV44.out.2.2.2.2)
      obtain ⟨W7, hW7⟩ : ∃ W7, w6.alloc (.cells #[.int .i64 (q1 : Int), .int .i64 (q2 : Int)] 26) = W7 := ⟨_, rfl⟩
      rw [hW7] at HW7 HV8 HV47
      obtain ⟨c0, c1, _, _, _⟩ := HV47.out
      obtain ⟨d0, d1, _, _, _⟩ := HV8.out
      dsimp only at c0 c1 d0 d1
      obtain ⟨k, hk⟩ : ∃ k, ys.length / 2 = k := ⟨_, rfl⟩
      have hkd : (ys.length : Int).tdiv 2 = (k : Int) := by rw [← hk]; rfl
      have hkd2 : (ys.length : Int) / 2 = (k : Int) := by omega
      have hk2 : 2 * k ≤ ys.length := by omega
      clear hb5 hb6 hb46 or5 hW4 a0 a1 b0 b1 hk
      by_cases hk0 : k = 0
      · have t0 : ((k : Int) == 0) = true := by simp [hk0]
        clear hk0
        go_wp2_with fail
        go_ret
        exact ⟨rfl, HB0.out.trans (HW7.out.mono z00)⟩
      · have t0 : ((k : Int) == 0) = false := by simp; omega
        have hk1 : 1 ≤ k := by omega
        obtain ⟨bb, oo, rfl, _, _⟩ := HRW.out.open (by simp; omega)
        have hs1 := fun X => slice_uptoH bb oo ys.length d k (by omega) X
        have hs2 := fun X => slice_fromH bb oo ys.length d k (by omega) hyd X
        have HT := Lib.hid (hops_take HB.out hk1 (show k ≤ ys.length by omega))
        have HD := Lib.hid (hops_drop HB.out (show k < ys.length by omega))
        obtain ⟨f, hf⟩ : ∃ f, arrQ (ys.take k) = f := ⟨_, rfl⟩
        obtain ⟨g, hg⟩ : ∃ g, arrQ (ys.drop k) = g := ⟨_, rfl⟩
        obtain ⟨f1, f2⟩ := f
        obtain ⟨g1, g2⟩ := g
        have HF := Lib.hid hf
        have HG := Lib.hid hg
        have HFG := Lib.hid (show mulF (f1, f2) (g1, g2) = (q1, q2) by
          rw [← hf, ← hg, arrQ_yes HT.out, arrQ_yes HD.out, arr_cut, ← arrQ_yes HB.out]; exact HQ.out)
        have hfb : f1 ≤ 100000 ∧ f2 ≤ 100000 ∧ 0 < f2 := by
          rw [arrQ_yes HT.out] at hf
          have h6 := (hops_of HT.out).2.2
          have h7 := red_le (prL (ys.take k)) (10 ^ (ys.take k).length)
          have h8 := red_pos (u := prL (ys.take k)) (ten_pos (ys.take k).length)
          have h9 := prL_le (ys.take k)
          have h10 := ten_le h6
          unfold arr at hf; rw [hf] at h7 h8; dsimp only at h7 h8
          omega
        have hgb : g1 ≤ 100000 ∧ g2 ≤ 100000 ∧ 0 < g2 := by
          rw [arrQ_yes HD.out] at hg
          have h6 := (hops_of HD.out).2.2
          have h7 := red_le (prL (ys.drop k)) (10 ^ (ys.drop k).length)
          have h8 := red_pos (u := prL (ys.drop k)) (ten_pos (ys.drop k).length)
          have h9 := prL_le (ys.drop k)
          have h10 := ten_le h6
          unfold arr at hg; rw [hg] at h7 h8; dsimp only at h7 h8
          omega
        have HTI := Lib.hid (fun X => timesOf_any f1 f2 g1 g2 X (Nat.le_trans (Nat.mul_le_mul hfb.1 hgb.1) (by decide)) (Nat.le_trans (Nat.mul_le_mul hfb.2.1 hgb.2.1) (by decide)) (Nat.mul_pos hfb.2.2 hgb.2.2))
        rw [HFG.out] at HTI
        unfold frV at HTI
        dsimp only at HTI
        have hlk : (ys.take k).length = k := by rw [List.length_take]; omega
        have hld : (ys.drop k).length = ys.length - k := by rw [List.length_drop]
        have HRT := Lib.hid (show ∀ X, Below w.heap.size w X → Ints X X.heap.size (some ⟨bb, oo, none⟩) (ys.take k) from fun X hX => by
          have := ((HRW.out.below hX).more hX.size).take k
          rwa [← List.map_take] at this)
        have HRD := Lib.hid (show ∀ X, Below w.heap.size w X → Ints X X.heap.size (some ⟨bb, oo + k, none⟩) (ys.drop k) from fun X hX => by
          have := ((HRW.out.below hX).more hX.size).drop k
          rwa [← List.map_drop] at this)
        clear hf hg hfb hgb hk0 hkd2
        go_wp2_with fail
        refine (impArr_v _ _ k (ys.take k) W7 f1 f2 true (HRT.out _ HW7.out) hlk.symm (by omega) HF.out HT.out).mono ?_
        rintro e w8 ⟨rfl, hb8⟩
        have hb9 := hb8.trans ((belQ w8 (.cells #[.int .i64 (f1 : Int), .int .i64 (f2 : Int)] 26)).mono hb8.size)
        have HW9 := Lib.hid (HW7.out.trans (hb9.mono HW7.out.size))
        have HV11 := Lib.hid (boxQ w8 f1 f2)
        have HV49 := Lib.hid (HV47.out.keep hb9 HV47.out.2.2.2.2)
        have HV89 := Lib.hid (HV8.out.keep hb9 HV8.out.2.2.2.2)
        obtain ⟨W9, hW9⟩ : ∃ W9, w8.alloc (.cells #[.int .i64 (f1 : Int), .int .i64 (f2 : Int)] 26) = W9 := ⟨_, rfl⟩
        rw [hW9] at HW9 HV11 HV49 HV89
        clear hb8 hb9 hW7 c0 c1 d0 d1
        go_wp2_with fail
        refine (impArr_v _ _ (ys.length - k) (ys.drop k) W9 g1 g2 true (HRD.out _ HW9.out) hld.symm (by omega) HG.out HD.out).mono ?_
        rintro e w10 ⟨rfl, hb10⟩
        have hb11 := hb10.trans ((belQ w10 (.cells #[.int .i64 (g1 : Int), .int .i64 (g2 : Int)] 26)).mono hb10.size)
        have HW11 := Lib.hid (HW9.out.trans (hb11.mono HW9.out.size))
        have HV13 := Lib.hid (boxQ w10 g1 g2)
        have HV4b := Lib.hid (HV49.out.keep hb11 HV49.out.2.2.2.2)
        have HV8b := Lib.hid (HV89.out.keep hb11 HV89.out.2.2.2.2)
        have HV11b := Lib.hid (HV11.out.keep hb11 HV11.out.2.2.2.2)
        obtain ⟨W11, hW11⟩ : ∃ W11, w10.alloc (.cells #[.int .i64 (g1 : Int), .int .i64 (g2 : Int)] 26) = W11 := ⟨_, rfl⟩
        rw [hW11] at HW11 HV13 HV4b HV8b HV11b
        obtain ⟨c0, c1, _, _, hl4⟩ := HV4b.out
        obtain ⟨d0, d1, _, _, hl8⟩ := HV8b.out
        obtain ⟨a0, a1, _, _, hl11⟩ := HV11b.out
        obtain ⟨b0, b1, _, _, hl13⟩ := HV13.out
        dsimp only at c0 c1 d0 d1 a0 a1 b0 b1
        clear hb10 hb11 hW9
        go_wp2_with fail
        go_region_with (go_at_call 12; (refine (HTI.out _).mono ?_); rintro e w12 ⟨rfl, hb12⟩; have q12 : Below W11.heap.size W11 w12 := Below.trans (by first | exact Below.refl _ _ | exact below_drewF (Below.refl _ _)) hb12; have Q12 := Lib.hid q12; have c2 := keepF q12 hl4 c0; have c3 := keepF q12 hl4 c1; have d2 := keepF q12 hl8 d0; have d3 := keepF q12 hl8 d1; have a2 := keepF q12 hl11 a0; have a3 := keepF q12 hl11 a1; have b2 := keepF q12 hl13 b0; have b3 := keepF q12 hl13 b1; clear hb12 q12)
        all_goals
          go_wp2
          go_ret
          exact ⟨rfl, by first | exact HB0.out.trans ((HW11.out.trans (Q12.out.mono HW11.out.size)).mono z00) | exact below_drewF (HB0.out.trans ((HW11.out.trans (Q12.out.mono HW11.out.size)).mono z00))⟩
  · go_enter Try.func3, Try.ntmps3
    go_wp2
    go_ret
    exact ⟨rfl, Below.refl _ _⟩
end Go.Proofs.Ytonnffilcmlodab
