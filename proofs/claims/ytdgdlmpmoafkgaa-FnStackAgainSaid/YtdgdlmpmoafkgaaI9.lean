/- spec.oneStack, spec.OneStack. No condition. -/
import Derived.Test.YtdgdlmpmoafkgaaI8
import Derived.Test.YtdgdlmpmoafkgaaI2
import Derived.Test.YtdgdlmpmoafkgaaI6
import Derived.Test.YtdgdlmpmoafkgaaS9
import Derived.WalkSmall
import Derived.Deep.RegionHeld3
namespace Go.Proofs.Ytdgdlmpmoafkgaa
open Go.RowKit

theorem ones_ints (S : List Int) : ∀ u ∈ S.map (Value.int .i64), u.oneCell' = true := fun u hu => by
  obtain ⟨z, _, rfl⟩ := List.mem_map.1 hu; rfl
theorem rev_snoc (S : List Int) (x : Int) : (S ++ [x]).reverse = x :: S.reverse := by simp
theorem top_reverse {S : List Int} {d : Nat} (h : S.length = d + 1) : S.reverse = S.getD d 0 :: (S.take d).reverse := by
  have h2 : S = S.take d ++ [S.getD d 0] := by
    rw [getD_get (by omega), ← List.take_succ_eq_append_getElem (by omega), List.take_of_length_le (by omega)]
  conv => lhs; rw [h2]
  exact rev_snoc _ _
theorem drop_get {zs : List Int} {i : Nat} (h : i < zs.length) : zs.drop i = zs.getD i 0 :: zs.drop (i + 1) := by
  rw [getD_get h]; exact (List.getElem_cons_drop h).symm

/-- The state of the stack and what came from it. -/
def OneSt (w0 W : World) (H : Option Addr) (m c1 : Nat) (S : List Int) (H2 : Option Addr) (p c2 : Nat) (X : List Int) : Prop :=
  S.length = m ∧ X.length = p ∧ W.ownsRow w0.heap.size 3 1 (.slice H m c1) m (S.map (Value.int .i64)) ∧ W.ownsRow w0.heap.size 3 1 (.slice H2 p c2) p (X.map (Value.int .i64)) ∧ H2.map (·.block) ≠ H.map (·.block) ∧ (H.map (·.block)).isSome = true ∧ (H2.map (·.block)).isSome = true ∧ Below w0.heap.size w0 W

theorem OneSt.drewN {w0 W : World} {H H2 : Option Addr} {m c1 p c2 : Nat} {S X : List Int} (h : OneSt w0 W H m c1 S H2 p c2 X) (q : Nat) : OneSt w0 (W.drewN q) H m c1 S H2 p c2 X :=
  ⟨h.1, h.2.1, h.2.2.1, h.2.2.2.1, h.2.2.2.2.1, h.2.2.2.2.2.1, h.2.2.2.2.2.2.1, below_drewN h.2.2.2.2.2.2.2 q⟩
/-- A letter from the top. -/
theorem OneSt.pop {w0 W W' : World} {H H2 H2' : Option Addr} {m d c1 p c2 c2' : Nat} {S X : List Int} {t : Int} (h : OneSt w0 W H m c1 S H2 p c2 X) (hd : m = d + 1)
    (ho : W'.ownsRow w0.heap.size 3 1 (.slice H2' (p + 1) c2') (p + 1) (X.map (Value.int .i64) ++ [.int .i64 t])) (hg : W.grownBy W' (Value.slice H2 p c2).ownBlock) (hat : H2'.map (·.block) = H2.map (·.block) ∨ H2'.map (·.block) = some (W.heap.size + 1)) :
    OneSt w0 W' H d c1 (S.take d) H2' (p + 1) c2' (X ++ [t]) := by
  obtain ⟨h1, h2, h3, h4, h5, h6, h7, h8⟩ := h
  subst hd
  obtain ⟨b, rfl, _, _⟩ := own_some h3 (by omega)
  have h3' := keep_other (H2 := H2) (m := p) (d := c2) h3 hg (fun e => h5 e.symm)
  refine ⟨by rw [List.length_take]; omega, by simp [h2], ?_, by rw [List.map_append]; exact ho, fun e => ne_new h3 (fun e => h5 e.symm) hat (by omega) e.symm, h6, some_new h7 hat, h8.grown hg h8.size (fun i hi => (h4.lt _ hi).1)⟩
  refine ownsRow_pop (last := [Value.int .i64 (S.getD d 0)]) (by simp; omega) ?_
  have e : S = S.take d ++ [S.getD d 0] := by
    rw [getD_get (by omega), ← List.take_succ_eq_append_getElem (by omega), List.take_of_length_le (by omega)]
  rw [e, List.map_append] at h3'
  exact h3'

/-- A letter put on: the stack is a new row. -/
theorem OneSt.push {w0 V W' : World} {H H2 A3 : Option Addr} {m c1 c3 p c2 : Nat} {S X : List Int} {x : Int} (h : OneSt w0 V H m c1 S H2 p c2 X)
    (ho : W'.ownsRow V.heap.size 3 1 (.slice A3 (m + 1) c3) (m + 1) (S.map (Value.int .i64) ++ [.int .i64 x])) (hg : V.grownBy W' none) : OneSt w0 W' A3 (m + 1) c3 (S ++ [x]) H2 p c2 X := by
  obtain ⟨h1, h2, h3, h4, h5, h6, h7, h8⟩ := h
  obtain ⟨b, rfl, hb1, hb2⟩ := own_some ho (by omega)
  refine ⟨by simp [h1], h2, by rw [List.map_append]; exact own_base ho h8.size, h4.kept hg (.inr (by rw [slice_block]; intro e; rw [e] at h7; simp at h7)), ?_, rfl, h7, h8.grown hg h8.size (fun i hi => by cases hi)⟩
  intro e
  have := (h4.lt b (by rw [slice_block]; exact e)).2
  omega
/-- A letter to what came. -/
theorem OneSt.add {w0 W W' : World} {H H2 H2' : Option Addr} {m c1 p c2 c2' : Nat} {S X : List Int} {t : Int} (h : OneSt w0 W H m c1 S H2 p c2 X)
    (ho : W'.ownsRow w0.heap.size 3 1 (.slice H2' (p + 1) c2') (p + 1) (X.map (Value.int .i64) ++ [.int .i64 t])) (hg : W.grownBy W' (Value.slice H2 p c2).ownBlock) (hat : H2'.map (·.block) = H2.map (·.block) ∨ H2'.map (·.block) = some (W.heap.size + 1)) :
    OneSt w0 W' H m c1 S H2' (p + 1) c2' (X ++ [t]) := by
  obtain ⟨h1, h2, h3, h4, h5, h6, h7, h8⟩ := h
  exact ⟨h1, by simp [h2], keep_other (H2 := H2) (m := p) (d := c2) h3 hg (fun e => h5 e.symm), by rw [List.map_append]; exact ho, fun e => ne_new h3 (fun e => h5 e.symm) hat (by omega) e.symm, h6, some_new h7 hat, h8.grown hg h8.size (fun i hi => (h4.lt _ hi).1)⟩

set_option maxRecDepth 100000 in
set_option maxHeartbeats 8000000 in
theorem specOneStack_any (A : Option Addr) (c0 : Nat) (zs : List Int) (w : World) (hr : Ints w w.heap.size A zs) (hl : zs.length ≤ 9) :
    Calls Try.prog 51 #[.slice A zs.length c0] w (iRes w (osR zs)) := by
  obtain ⟨i0, hi0, hz0, hz1, hz2⟩ := info_parts Try.info3
  have hzn : (Value.int .i64 0).cells.size = 1 := rfl
  have HS1 := Lib.hid ((first_litI w).alloc (.cells #[] 3))
  have HS2 := Lib.hid (show ((w.alloc (.cells #[] 3)).alloc (.cells #[] 3)).ownsRow w.heap.size 3 1 (.slice (some ⟨w.heap.size + 1, 0, none⟩) 0 0) 0 [] by
    have := own_base (first_litI (w.alloc (.cells #[] 3))) (by simp : w.heap.size ≤ (w.alloc (.cells #[] 3)).heap.size)
    rwa [World.size_alloc] at this)
  go_enter Try.func51, Try.ntmps51
  go_wp2
  go_loopw [3, 4, 5] (fun t v j wr => ∃ (i m p : Nat) (H H2 : Option Addr) (c1 c2 : Nat) (S X : List Int), i ≤ zs.length ∧ j = .int .i64 i ∧ t = .slice H m c1 ∧ v = .slice H2 p c2 ∧ p + m = i ∧ OneSt w wr H m c1 S H2 p c2 X ∧ osR zs = X ++ osL S.reverse (zs.drop i)) (fun _ _ j _ => zs.length - (intOf j).toNat)
  case atStart => exact ⟨0, 0, 0, _, _, _, _, [], [], by omega, rfl, rfl, rfl, rfl, ⟨rfl, rfl, HS1.out, HS2.out, by simp, rfl, rfl, ((Below.refl _ _).alloc (Nat.le_refl _) _).alloc (by simp) _⟩, rfl⟩
  case round =>
    obtain ⟨i, m, p, H, H2, c1, c2, S, X, hi, rfl, rfl, rfl, hpm, hst, hos⟩ := hrel
    have HST := Lib.hid hst
    have HOS := Lib.hid hos
    clear hst hos
    by_cases hlt : i < zs.length
    · have hbr := HST.out.2.2.2.2.2.2.2
      obtain ⟨b, o, rfl, hb, hc⟩ := (hr.below hbr).open (by simp; omega)
      have hcI := ints_atD hc hlt
      obtain ⟨x, hx⟩ : ∃ x, zs.getD i 0 = x := ⟨_, rfl⟩
      rw [hx] at hcI
      have HD := Lib.hid (show zs.drop i = x :: zs.drop (i + 1) by rw [← hx]; exact drop_get hlt)
      have HBI := Lib.hid (show ∀ W : World, Below w.heap.size w W → W.cell? ⟨b, o + i, none⟩ = some (.int .i64 x) from fun W hW => by
        obtain ⟨b', o', e, _, hc'⟩ := (hr.below hW).open (by simp; omega)
        simp only [Option.some.injEq, Addr.mk.injEq, and_true] at e
        obtain ⟨rfl, rfl⟩ := e
        rw [← hx]; exact ints_atD hc' hlt)
      clear hc hx hbr hcI
      go_wp2_with fail
      go_loopw [3, 4] (fun t v wr => ∃ (m p : Nat) (H H2 : Option Addr) (c1 c2 : Nat) (S X : List Int), t = .slice H m c1 ∧ v = .slice H2 p c2 ∧ p + m = i ∧ OneSt w wr H m c1 S H2 p c2 X ∧ osR zs = X ++ osL S.reverse (zs.drop i)) (fun t _ _ => (match t with | .slice _ m _ => m | _ => 0))
      case atStart => exact ⟨m, p, H, H2, c1, c2, S, X, rfl, rfl, hpm, HST.out, HOS.out⟩
      case round =>
        clear HST HOS
        clear hpm
        obtain ⟨m, p, H, H2, c1, c2, S, X, rfl, rfl, hpm, hst, hos⟩ := hrel
        have HST := Lib.hid hst
        have HOS := Lib.hid hos
        have hbw := hst.2.2.2.2.2.2.2
        have hbz := hbw.size
        have hcI := HBI.out _ hbw
        have hSl := hst.1
        have hownS := hst.2.2.1
        have hownO := hst.2.2.2.1
        have hiI : (i : Int) < zs.length := by omega
        have hi0' : (0 : Int) ≤ (i : Int) := by omega
        clear hst hos
        by_cases hm0 : m = 0
        · have hS0 : S = [] := List.eq_nil_of_length_eq_zero (by omega)
          have HNX := Lib.hid (show osR zs = X ++ osL (S ++ [x]).reverse (zs.drop (i + 1)) by rw [HOS.out, HD.out, hS0]; simp only [List.reverse_nil, List.nil_append]; rw [osL_put_nil]; rfl)
          have HMI := Lib.hid hpm
          have hmp : decide (0 < m) = false := decide_eq_false (by omega)
          have hm9 : m ≤ 9 := by omega
          clear hS0 hownS hownO hcI hpm hSl hm0
          go_wp2
          go_quiet (fail)
          go_simp
          clear hmp
          have HSTV := Lib.hid (HST.out.drewN nq)
          generalize wr.drewN nq = V at HSTV ⊢
          have hbV := HSTV.out.2.2.2.2.2.2.2
          have hbzV := hbV.size
          have HKEEP := Lib.hid (show ∀ W', Below V.heap.size V W' → W'.cell? ⟨b, o + i, none⟩ = some (.int .i64 x) from fun W' hW => HBI.out W' ((HSTV.out.2.2.2.2.2.2.2).trans (hW.mono hbzV)))
          have HSR := Lib.hid (own_of_rowS (by decide) HSTV.out.2.2.1).row
          have HIL := Lib.hid (show (S.map (Value.int .i64)).length = m * 1 by rw [List.length_map, HSTV.out.1, Nat.mul_one])
          clear hbV
          go_wp2_with fail
          go_region_held3 (fun w' => w'.cell? ⟨b, o + i, none⟩ = some (.int .i64 x))
            (exact HKEEP.out _ (by first | exact below_g hgB (Nat.le_refl _) | exact below_g (g_alloc hgA _) (Nat.le_refl _) | exact below_g hgA (Nat.le_refl _) | exact below_g (g_alloc (g_alloc (g_drew (World.grownBy.refl V none)) _) _) (Nat.le_refl _) | exact below_g (g_alloc (g_drew (World.grownBy.refl V none)) _) (Nat.le_refl _) | exact below_g (g_drew (World.grownBy.refl V none)) (Nat.le_refl _) | exact Below.refl _ _))
            (first
            | (refine step_extend (w := V.drew.alloc (.cells #[] 3)) (by rfl) (.tmp 45) (.tmp 46) 22 (by rfl) i0 (.int .i64 0) 8 Try.underlying22 hi0 hz0 hz1 hz2 rfl (by decide) _ _ (by rfl) (first_lit _ V.heap.size (Nat.le_refl _)) _ _ _ _ _ (by rfl) HIL.out (HSR.out.grownN (Nat.le_refl _) (g_alloc (g_drew (World.grownBy.refl V none)) _)) (ones_ints _) (by omega) (by omega) (g_alloc (g_drew (World.grownBy.refl V none)) _).size ?_; intro A2 c2' w2 hown2 hg2; simp only [Nat.zero_add]; have hgA : V.grownBy w2 none := g_new (g_alloc (g_drew (World.grownBy.refl V none)) _) hg2 (fun i hi => ((first_lit V.drew V.heap.size (Nat.le_refl _)).lt _ hi).1); have hown2' : w2.ownsRow V.heap.size 3 1 (.slice A2 m c2') m (S.map (Value.int .i64)) := (by simpa using hown2))
            | (refine step_extend (w := (V.drew.alloc (.cells #[] 3)).alloc (.cells #[.int .i64 x] 3)) (by rfl) (.tmp 45) (.tmp 46) 22 (by rfl) i0 (.int .i64 0) 8 Try.underlying22 hi0 hz0 hz1 hz2 rfl (by decide) _ _ (by rfl) ((first_lit _ V.heap.size (Nat.le_refl _)).alloc _) _ _ _ _ _ (by rfl) HIL.out (HSR.out.grownN (Nat.le_refl _) (g_alloc (g_alloc (g_drew (World.grownBy.refl V none)) _) _)) (ones_ints _) (by omega) (by omega) (g_alloc (g_alloc (g_drew (World.grownBy.refl V none)) _) _).size ?_; intro A2 c2' w2 hown2 hg2; simp only [Nat.zero_add]; have hgA : V.grownBy w2 none := g_new (g_alloc (g_alloc (g_drew (World.grownBy.refl V none)) _) _) hg2 (fun i hi => (((first_lit V.drew V.heap.size (Nat.le_refl _)).alloc (.cells #[.int .i64 x] 3)).lt _ hi).1); have hown2' : w2.ownsRow V.heap.size 3 1 (.slice A2 m c2') m (S.map (Value.int .i64)) := (by simpa using hown2); have hsb : Own w2 0 (V.heap.size + 2) (some ⟨V.heap.size + 1, 0, none⟩) [.int .i64 x] := src_b V.drew _ #[.int .i64 x] 3 hg2)
            | (refine step_extend (w := (V.drew.alloc (.cells #[.int .i64 x] 3)).alloc (.cells #[] 3)) (by rfl) (.tmp 45) (.tmp 46) 22 (by rfl) i0 (.int .i64 0) 8 Try.underlying22 hi0 hz0 hz1 hz2 rfl (by decide) _ _ (by rfl) (first_lit' _ V.heap.size (V.heap.size + 1) (g_alloc (g_drew (World.grownBy.refl V none)) _).size (World.size_alloc _ _)) _ _ _ _ _ (by rfl) HIL.out (HSR.out.grownN (Nat.le_refl _) (g_alloc (g_alloc (g_drew (World.grownBy.refl V none)) _) _)) (ones_ints _) (by omega) (by omega) (g_alloc (g_alloc (g_drew (World.grownBy.refl V none)) _) _).size ?_; intro A2 c2' w2 hown2 hg2; simp only [Nat.zero_add]; have hgA : V.grownBy w2 none := g_new (g_alloc (g_alloc (g_drew (World.grownBy.refl V none)) _) _) hg2 (fun i hi => ((first_lit' (V.drew.alloc (.cells #[.int .i64 x] 3)) V.heap.size (V.heap.size + 1) (g_alloc (g_drew (World.grownBy.refl V none)) _).size (World.size_alloc _ _)).lt _ hi).1); have hown2' : w2.ownsRow V.heap.size 3 1 (.slice A2 m c2') m (S.map (Value.int .i64)) := (by simpa using hown2); have hsb : Own w2 0 (V.heap.size + 1) (some ⟨V.heap.size, 0, none⟩) [.int .i64 x] := src_c V.drew _ #[.int .i64 x] 3 hg2)
            | (refine step_extend (w := w2) (by rfl) (.tmp 47) (.tmp 52) 22 (by rfl) i0 (.int .i64 0) 8 Try.underlying22 hi0 hz0 hz1 hz2 rfl (by decide) _ _ (by rfl) hown2' _ _ _ _ [.int .i64 x] (by rfl) (by simp) hsb (by simp [Value.oneCell']) (by omega) (by omega) hgA.size ?_; intro A3 c3 w3 hown3 hg3; have hgB : V.grownBy w3 none := g_new hgA hg3 (fun i hi => (hown2'.lt _ hi).1))
            | (refine step_extend (w := w2.alloc (.cells #[.int .i64 x] 3)) (by rfl) (.tmp 47) (.tmp 52) 22 (by rfl) i0 (.int .i64 0) 8 Try.underlying22 hi0 hz0 hz1 hz2 rfl (by decide) _ _ (by rfl) (hown2'.alloc _) _ _ _ _ [.int .i64 x] (by rfl) (by simp) (own_new w2 #[.int .i64 x] 3) (by simp [Value.oneCell']) (by omega) (by omega) (g_alloc hgA _).size ?_; intro A3 c3 w3 hown3 hg3; have hgB : V.grownBy w3 none := g_new (g_alloc hgA _) hg3 (fun i hi => (hown2'.lt _ hi).1)))
          all_goals
            have HW := Lib.hid (HSTV.out.push hown3 hgB)
            clear hown3 hgB hg3 hown2 hown2' hg2 hgA
            try clear hsb
            go_wp2
            go_roundw
            case rel => exact ⟨i + 1, m + 1, p, A3, H2, c3, c2, S ++ [x], X, by omega, by go_num, rfl, rfl, by have := HMI.out; omega, HW.out, HNX.out⟩
            case measure => simp [intOf]; omega
        · obtain ⟨d, hd⟩ : ∃ d, m = d + 1 := ⟨m - 1, by omega⟩
          obtain ⟨g, rfl, hcT, hdm, hmc⟩ := last_cell hownS hd
          have htr := top_reverse (S := S) (d := d) (by omega)
          obtain ⟨t, ht⟩ : ∃ t, S.getD d 0 = t := ⟨_, rfl⟩
          rw [ht] at hcT htr
          have hm1 : (m : Int) - 1 = (d : Int) := by omega
          have hw1 : IntKind.i64.wrap ((m : Int) - 1) = (d : Int) := by rw [hm1]; exact IntWalk.i64_in _ (by omega)
          have hmp : decide (0 < m) = true := decide_eq_true (by omega)
          have hdI : (d : Int) < (m : Int) := by omega
          have hd0 : (0 : Int) ≤ (d : Int) := by omega
          have hdc : (d : Int) ≤ (c1 : Int) := by omega
          by_cases hlt2 : t < x
          · have hdd : decide (t < x) = true := decide_eq_true hlt2
            have HNX := Lib.hid (show osR zs = (X ++ [t]) ++ osL (S.take d).reverse (zs.drop i) by rw [HOS.out, HD.out, htr, osL_pop hlt2]; simp)
            have HDD := Lib.hid hd
            have HMI := Lib.hid hpm
            have hpi : p ≤ 9 := by omega
            clear ht htr hlt2 hm0 hd hpm hownS hm1
            go_wp2
            go_quiet (fail)
            go_simp
            have hownO' : (wr.drewN nq).ownsRow w.heap.size 3 1 (.slice H2 p c2) p (X.map (Value.int .i64)) := hownO
            clear hownO
            go_wp2_with (at_builtin; refine wpList_push_at rfl (.tmp 31) (.tmp 38) 22 rfl i0 (.int .i64 0) 8 Try.underlying22 hi0 hz0 hz1 hz2 rfl (by decide) _ _ rfl hownO' [.int .i64 t] rfl rfl (by simp [Value.oneCell']) (by omega) (by omega) hbz ?_)
            intro H2' c2' w5 hown5 hg5 hat5
            have HW := Lib.hid ((HST.out.drewN nq).pop HDD.out hown5 hg5 (at_form hat5))
            clear hown5 hg5 hat5 hownO'
            go_wp2
            go_roundw
            case rel => exact ⟨d, p + 1, _, H2', c1, c2', S.take d, X ++ [t], rfl, rfl, by have := HMI.out; have := HDD.out; omega, HW.out, HNX.out⟩
            case measure => have := HDD.out; simp; omega
          · have hdd : decide (t < x) = false := decide_eq_false hlt2
            have HNX := Lib.hid (show osR zs = X ++ osL (S ++ [x]).reverse (zs.drop (i + 1)) by rw [HOS.out, HD.out, rev_snoc, htr, osL_put hlt2])
            have HMI := Lib.hid hpm
            have hm9 : m ≤ 9 := by omega
            clear ht htr hlt2 hm0 hd hpm hownS hownO hm1 hSl
            go_wp2
            go_quiet (fail)
            go_simp
            clear hcT hcI hdd
            have HSTV := Lib.hid (HST.out.drewN nq)
            generalize wr.drewN nq = V at HSTV ⊢
            have hbV := HSTV.out.2.2.2.2.2.2.2
            have hbzV := hbV.size
            have HKEEP := Lib.hid (show ∀ W', Below V.heap.size V W' → W'.cell? ⟨b, o + i, none⟩ = some (.int .i64 x) from fun W' hW => HBI.out W' ((HSTV.out.2.2.2.2.2.2.2).trans (hW.mono hbzV)))
            have HSR := Lib.hid (own_of_rowS (by decide) HSTV.out.2.2.1).row
            have HIL := Lib.hid (show (S.map (Value.int .i64)).length = m * 1 by rw [List.length_map, HSTV.out.1, Nat.mul_one])
            clear hbV
            go_wp2_with fail
            go_region_held3 (fun w' => w'.cell? ⟨b, o + i, none⟩ = some (.int .i64 x))
              (exact HKEEP.out _ (by first | exact below_g hgB (Nat.le_refl _) | exact below_g (g_alloc hgA _) (Nat.le_refl _) | exact below_g hgA (Nat.le_refl _) | exact below_g (g_alloc (g_alloc (g_drew (World.grownBy.refl V none)) _) _) (Nat.le_refl _) | exact below_g (g_alloc (g_drew (World.grownBy.refl V none)) _) (Nat.le_refl _) | exact below_g (g_drew (World.grownBy.refl V none)) (Nat.le_refl _) | exact Below.refl _ _))
              (first
              | (refine step_extend (w := V.drew.alloc (.cells #[] 3)) (by rfl) (.tmp 45) (.tmp 46) 22 (by rfl) i0 (.int .i64 0) 8 Try.underlying22 hi0 hz0 hz1 hz2 rfl (by decide) _ _ (by rfl) (first_lit _ V.heap.size (Nat.le_refl _)) _ _ _ _ _ (by rfl) HIL.out (HSR.out.grownN (Nat.le_refl _) (g_alloc (g_drew (World.grownBy.refl V none)) _)) (ones_ints _) (by omega) (by omega) (g_alloc (g_drew (World.grownBy.refl V none)) _).size ?_; intro A2 c2' w2 hown2 hg2; simp only [Nat.zero_add]; have hgA : V.grownBy w2 none := g_new (g_alloc (g_drew (World.grownBy.refl V none)) _) hg2 (fun i hi => ((first_lit V.drew V.heap.size (Nat.le_refl _)).lt _ hi).1); have hown2' : w2.ownsRow V.heap.size 3 1 (.slice A2 m c2') m (S.map (Value.int .i64)) := (by simpa using hown2))
              | (refine step_extend (w := (V.drew.alloc (.cells #[] 3)).alloc (.cells #[.int .i64 x] 3)) (by rfl) (.tmp 45) (.tmp 46) 22 (by rfl) i0 (.int .i64 0) 8 Try.underlying22 hi0 hz0 hz1 hz2 rfl (by decide) _ _ (by rfl) ((first_lit _ V.heap.size (Nat.le_refl _)).alloc _) _ _ _ _ _ (by rfl) HIL.out (HSR.out.grownN (Nat.le_refl _) (g_alloc (g_alloc (g_drew (World.grownBy.refl V none)) _) _)) (ones_ints _) (by omega) (by omega) (g_alloc (g_alloc (g_drew (World.grownBy.refl V none)) _) _).size ?_; intro A2 c2' w2 hown2 hg2; simp only [Nat.zero_add]; have hgA : V.grownBy w2 none := g_new (g_alloc (g_alloc (g_drew (World.grownBy.refl V none)) _) _) hg2 (fun i hi => (((first_lit V.drew V.heap.size (Nat.le_refl _)).alloc (.cells #[.int .i64 x] 3)).lt _ hi).1); have hown2' : w2.ownsRow V.heap.size 3 1 (.slice A2 m c2') m (S.map (Value.int .i64)) := (by simpa using hown2); have hsb : Own w2 0 (V.heap.size + 2) (some ⟨V.heap.size + 1, 0, none⟩) [.int .i64 x] := src_b V.drew _ #[.int .i64 x] 3 hg2)
              | (refine step_extend (w := (V.drew.alloc (.cells #[.int .i64 x] 3)).alloc (.cells #[] 3)) (by rfl) (.tmp 45) (.tmp 46) 22 (by rfl) i0 (.int .i64 0) 8 Try.underlying22 hi0 hz0 hz1 hz2 rfl (by decide) _ _ (by rfl) (first_lit' _ V.heap.size (V.heap.size + 1) (g_alloc (g_drew (World.grownBy.refl V none)) _).size (World.size_alloc _ _)) _ _ _ _ _ (by rfl) HIL.out (HSR.out.grownN (Nat.le_refl _) (g_alloc (g_alloc (g_drew (World.grownBy.refl V none)) _) _)) (ones_ints _) (by omega) (by omega) (g_alloc (g_alloc (g_drew (World.grownBy.refl V none)) _) _).size ?_; intro A2 c2' w2 hown2 hg2; simp only [Nat.zero_add]; have hgA : V.grownBy w2 none := g_new (g_alloc (g_alloc (g_drew (World.grownBy.refl V none)) _) _) hg2 (fun i hi => ((first_lit' (V.drew.alloc (.cells #[.int .i64 x] 3)) V.heap.size (V.heap.size + 1) (g_alloc (g_drew (World.grownBy.refl V none)) _).size (World.size_alloc _ _)).lt _ hi).1); have hown2' : w2.ownsRow V.heap.size 3 1 (.slice A2 m c2') m (S.map (Value.int .i64)) := (by simpa using hown2); have hsb : Own w2 0 (V.heap.size + 1) (some ⟨V.heap.size, 0, none⟩) [.int .i64 x] := src_c V.drew _ #[.int .i64 x] 3 hg2)
              | (refine step_extend (w := w2) (by rfl) (.tmp 47) (.tmp 52) 22 (by rfl) i0 (.int .i64 0) 8 Try.underlying22 hi0 hz0 hz1 hz2 rfl (by decide) _ _ (by rfl) hown2' _ _ _ _ [.int .i64 x] (by rfl) (by simp) hsb (by simp [Value.oneCell']) (by omega) (by omega) hgA.size ?_; intro A3 c3 w3 hown3 hg3; have hgB : V.grownBy w3 none := g_new hgA hg3 (fun i hi => (hown2'.lt _ hi).1))
              | (refine step_extend (w := w2.alloc (.cells #[.int .i64 x] 3)) (by rfl) (.tmp 47) (.tmp 52) 22 (by rfl) i0 (.int .i64 0) 8 Try.underlying22 hi0 hz0 hz1 hz2 rfl (by decide) _ _ (by rfl) (hown2'.alloc _) _ _ _ _ [.int .i64 x] (by rfl) (by simp) (own_new w2 #[.int .i64 x] 3) (by simp [Value.oneCell']) (by omega) (by omega) (g_alloc hgA _).size ?_; intro A3 c3 w3 hown3 hg3; have hgB : V.grownBy w3 none := g_new (g_alloc hgA _) hg3 (fun i hi => (hown2'.lt _ hi).1)))
            all_goals
              have HW := Lib.hid (HSTV.out.push hown3 hgB)
              clear hown3 hgB hg3 hown2 hown2' hg2 hgA
              try clear hsb
              go_wp2
              go_roundw
              case rel => exact ⟨i + 1, m + 1, p, A3, H2, c3, c2, S ++ [x], X, by omega, by go_num, rfl, rfl, by have := HMI.out; omega, HW.out, HNX.out⟩
              case measure => simp [intOf]; omega
    · have hin : i = zs.length := by omega
      have HFI := Lib.hid (show osR zs = X ++ S.reverse by rw [HOS.out, hin, List.drop_length]; rfl)
      have HPM := Lib.hid (And.intro hpm hin)
      have hSl0 := HST.out.1
      have hm9 : m ≤ 9 := by omega
      have hp9 : p ≤ 9 := by omega
      clear HOS hin hpm
      go_wp2_with fail
      go_loopw [4, 6] (fun v j wr => ∃ (k : Nat) (H2' : Option Addr) (c2' : Nat), k ≤ m ∧ j = .int .i64 ((m : Int) - 1 - k) ∧ v = .slice H2' (p + k) c2' ∧ OneSt w wr H m c1 S H2' (p + k) c2' (X ++ S.reverse.take k)) (fun _ j _ => (intOf j + 1).toNat)
      case atStart => exact ⟨0, H2, c2, by omega, by go_num, rfl, by simpa using HST.out⟩
      case round =>
        clear HST
        obtain ⟨k, H2', c2', hk, rfl, rfl, hst⟩ := hrel
        have HST := Lib.hid hst
        have hbz := hst.2.2.2.2.2.2.2.size
        have hownS := hst.2.2.1
        have hownO := hst.2.2.2.1
        clear hst
        by_cases hlt3 : k < m
        · obtain ⟨g, rfl, _, _⟩ := own_some hownS (by omega)
          obtain ⟨d, hd⟩ : ∃ d, m - 1 - k = d := ⟨_, rfl⟩
          have hcell := hownS.cellAt d (by omega)
          rw [List.getElem?_map, List.getElem?_eq_getElem (by omega), ← getD_get] at hcell
          obtain ⟨t, ht⟩ : ∃ t, S.getD d 0 = t := ⟨_, rfl⟩
          rw [ht] at hcell
          simp only [Option.map_some] at hcell
          have hnx : X ++ S.reverse.take (k + 1) = (X ++ S.reverse.take k) ++ [t] := by
            rw [List.append_assoc, List.take_succ_eq_append_getElem (by simp; omega), ← getD_get, rev_getD (by omega), ← ht]; congr 4; omega
          obtain ⟨Y, hY⟩ : ∃ Y, X ++ S.reverse.take k = Y := ⟨_, rfl⟩
          rw [hY] at HST hownO hnx
          have HNX := Lib.hid hnx
          clear hY hnx
          have hidx : (m : Int) - 1 - (k : Int) = (d : Int) := by omega
          rw [hidx]
          have HDX := Lib.hid hidx
          have hdI : (d : Int) < (m : Int) := by omega
          have hd0 : (0 : Int) ≤ (d : Int) := by omega
          clear hidx hd ht hownS
          go_wp2_with (at_builtin; refine wpList_push_at rfl (.tmp 61) (.tmp 66) 22 rfl i0 (.int .i64 0) 8 Try.underlying22 hi0 hz0 hz1 hz2 rfl (by decide) _ _ rfl hownO [.int .i64 t] rfl rfl (by simp [Value.oneCell']) (by omega) (by omega) hbz ?_)
          intro H3 c3 w5 hown5 hg5 hat5
          have HW := Lib.hid (HST.out.add hown5 hg5 (at_form hat5))
          clear hown5 hg5 hat5 hownO
          go_wp2
          go_roundw
          case rel => exact ⟨k + 1, H3, c3, by omega, by have := HDX.out; exact congrArg (Value.int .i64) (by omega), by rfl, by rw [HNX.out]; exact HW.out⟩
          case measure => simp [intOf]
        · have hkm : k = m := by omega
          have HF := Lib.hid (show X ++ S.reverse.take k = osR zs ∧ p + k = (osR zs).length by
            have h1 : X ++ S.reverse.take k = osR zs := by rw [HFI.out, List.take_of_length_le (by simp; omega)]
            exact ⟨h1, by rw [← h1]; exact HST.out.2.1.symm⟩)
          have HW := Lib.hid (iRes_row (V := osR zs) (by have := hownO; rw [HF.out.1] at this; exact this) HF.out.2 HST.out.2.2.2.2.2.2.2)
          clear hkm hownO hownS
          go_wp2
          go_ret
          exact HW.out

def oneV (zs : List Int) : List Int := if rowB 9 zs then osR zs else []
theorem oneV_yes {zs : List Int} (h : rowB 9 zs = true) : oneV zs = osR zs := by simp [oneV, h]
theorem oneV_no {zs : List Int} (h : rowB 9 zs = false) : oneV zs = [] := by simp [oneV, h]
theorem oneV_len (zs : List Int) : (oneV zs).length ≤ 9 := by
  unfold oneV
  by_cases h : rowB 9 zs = true
  · rw [if_pos h, osR_len]; exact rowB_len h
  · rw [if_neg h]; simp

set_option maxRecDepth 100000 in
theorem specOneStackOf_any (A : Option Addr) (c0 : Nat) (zs : List Int) (w : World) (hr : Ints w w.heap.size A zs) (hl : zs.length ≤ 9000000000000000000) :
    Calls Try.prog 25 #[.slice A zs.length c0] w (iRes w (oneV zs)) := by
  have hva := specValidRow9_any A c0 zs w hr hl
  by_cases hv : rowB 9 zs = true
  · rw [hv] at hva
    have HVA := Lib.hid hva
    have HRI := Lib.hid (specOneStack_any A c0 zs w hr (rowB_len hv))
    rw [oneV_yes hv]
    clear hva hv
    go_enter Try.func25, Try.ntmps25
    go_wp2_with (go_at_call 32; refine HVA.out.mono ?_; rintro e w' ⟨rfl, rfl⟩)
    refine HRI.out.mono ?_
    intro e w1 hres
    have HF := Lib.hid hres
    obtain ⟨A1, c1, rfl, -, -, -⟩ := hres
    go_wp2_with fail
    go_ret
    exact HF.out
  · have hv' : rowB 9 zs = false := by simpa using hv
    rw [hv'] at hva
    have HVA := Lib.hid hva
    rw [oneV_no hv']
    clear hva hv hv'
    go_enter Try.func25, Try.ntmps25
    go_wp2_with (go_at_call 32; refine HVA.out.mono ?_; rintro e w' ⟨rfl, rfl⟩)
    go_ret
    exact iRes.none rfl (Below.refl _ _)
end Go.Proofs.Ytdgdlmpmoafkgaa
