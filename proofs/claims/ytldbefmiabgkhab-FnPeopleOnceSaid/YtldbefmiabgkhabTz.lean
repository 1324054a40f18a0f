/- The walk of the law FnPeopleOnce. No condition. -/
import Derived.Test.YtldbefmiabgkhabTy
import Derived.Test.YtldbefmiabgkhabTp
import Derived.Test.YtldbefmiabgkhabFi
import Derived.Test.YtldbefmiabgkhabDr
import Derived.Deep.RegionLaw
import Derived.Deep.RegionHeld3
namespace Go.Proofs.Ytldbefmiabgkhab
open Go.RowKit

set_option maxRecDepth 100000 in
set_option maxHeartbeats 16000000 in
theorem peopleOnce_law (A : Option Addr) (c : Nat) (zs : List Int) (w : World) (hr : Own w 0 w.heap.size A (zs.map (Value.int .u8))) (hx : zs.length ≤ c ∧ c ≤ maxLen ∧ ∀ z ∈ zs, (Lit.int .u8 z).wf = true) :
    Calls Try.prog 7 #[.slice A zs.length c] w fun e w' => e = .returned (.bool true) ∧ Below w.heap.size w w' := by
  have hl : zs.length ≤ 9223372036854775807 := by have := hx.1; have := hx.2.1; unfold maxLen at this; omega
  obtain ⟨i0, hi0, hz0, hz1, hz2⟩ := info_parts Try.infoD
  obtain ⟨j0, hj0, hy0, hy1, hy2⟩ := info_parts Try.infoR
  have HX := Lib.hid hx
  clear hx
  by_cases h20 : zs.length ≤ 1048576
  · go_enter Try.func7, Try.ntmps7
    go_wp2_with fail
    refine (drawPeopleOf_any _ _ _ _ hr HX.out).mono ?_
    rintro e w1 ⟨B, d, rs, name, rfl, ⟨hnm0, hnm9⟩, h6, hdc, htw, ho, hb1⟩
    have HM := Lib.hid (show ∀ r ∈ rs, r.length ≤ 1000000000 from fun r h => by have := htw r h; omega)
    obtain ⟨V, hV⟩ := exists_peo rs name
    have hVl := hV.len
    have HV := Lib.hid hV
    have HO := Lib.hid ho
    have HB1 := Lib.hid hb1
    have s1 := hb1.size
    clear htw hV hb1 hr
    go_wp2_with fail
    refine (impPeopleOf_any _ _ _ _ _ _ HO.out HM.out HV.out).mono ?_
    rintro e w2 ⟨A2, c2, rfl, hc2, o2, hb2⟩
    have HB2 := Lib.hid hb2
    have O2 := Lib.hid o2
    have HO2 := Lib.hid (HO.out.past hb2)
    clear o2 hb2 hc2 ho
    go_wp2_with fail
    refine (specPeopleOf_any _ _ _ _ _ _ HO2.out (by omega) HM.out HV.out).mono ?_
    rintro e w3 ⟨A3, c3, rfl, hc3, o3, hb3⟩
    have HB3 := Lib.hid hb3
    have O3 := Lib.hid (And.intro (O2.out.keep (Nat.le_refl _) hb3) o3)
    have HO3 := Lib.hid (HO2.out.past hb3)
    clear o3 hb3 hc3
    go_wp2_with fail
    refine (equalInts_one _ _ _ _ V w3 (O3.out.1.row.more HB3.out.size) O3.out.2.row (by omega)).mono ?_
    rintro e w4 ⟨rfl, hb4⟩
    have HBB := Lib.hid (HB1.out.trans ((HB2.out.mono s1).trans ((HB3.out.mono (by have := HB2.out.size; omega)).trans (hb4.mono (by have := HB2.out.size; have := HB3.out.size; omega)))))
    have HO4 := Lib.hid (HO3.out.past hb4)
    clear hb4 s1
    go_wp2_with fail
    refine (impPeopleOf_any _ _ _ _ _ _ HO4.out HM.out HV.out).mono ?_
    rintro e w5 ⟨A5, c5, rfl, hc5, o5, hb5⟩
    have HB5 := Lib.hid (HBB.out.trans (hb5.mono HBB.out.size))
    have O5 := Lib.hid o5.row
    have HO5 := Lib.hid (HO4.out.past hb5)
    have s5 := HB5.out.size
    clear o5 hb5 hc5
    go_wp2_with fail
    refine (impValidGroups_any _ _ _ _ HO5.out HM.out).mono ?_
    rintro e w' ⟨rfl, rfl⟩
    by_cases hg : groupsB rs = true
    · rw [hg]
      by_cases h0 : name < 0
      · have t0 : decide (name < 0) = true := decide_eq_true h0
        clear h0 hg
        go_wp2_with fail
        go_ret
        exact ⟨rfl, HB5.out⟩
      have t0 : decide (name < 0) = false := decide_eq_false h0
      by_cases hn : (rs.length : Int) ≤ name
      · have tn : decide ((rs.length : Int) ≤ name) = true := decide_eq_true hn
        clear h0 hg hn
        go_wp2_with fail
        go_ret
        exact ⟨rfl, HB5.out⟩
      have tn : decide ((rs.length : Int) ≤ name) = false := decide_eq_false hn
      obtain ⟨a, rfl⟩ : ∃ a : Nat, name = a := ⟨name.toNat, by omega⟩
      have tnn : decide (rs.length ≤ a) = false := decide_eq_false (by omega)
      have hal : a < rs.length := by omega
      have haI : (a : Int) < (rs.length : Int) := by omega
      have HG := Lib.hid hg
      obtain ⟨hs, hown, hat⟩ := HO5.out
      obtain ⟨bh, oh, rfl, hbh, hch⟩ := hown.open (by rw [hat.1]; omega)
      obtain ⟨R1, cR1, hh1, hcR1, hR1⟩ := hat.2 a hal
      have x1 := hch a _ hh1
      have HO6 := Lib.hid hown
      have HAT := Lib.hid hat
      have HGD := Lib.hid (getD_row hal)
      have HLO := Lib.hid ((gr_of hg).lo a hal)
      obtain ⟨r, hre⟩ : ∃ r, rs[a] = r := ⟨_, rfl⟩
      rw [hre] at x1 hcR1 hR1 HGD HLO
      have HX1 := Lib.hid x1
      clear hh1 hre hg h0 hn
      by_cases hl0 : r.length = 0
      · have tl : ((r.length : Int) == 0) = true := by simp [hl0]
        clear hl0 hch hR1
        go_wp2_with fail
        go_ret
        exact ⟨rfl, HB5.out⟩
      have tl : ((r.length : Int) == 0) = false := by rw [beq_eq_false_iff_ne]; omega
      by_cases hl4 : r.length = 4
      · have tl4 : ((r.length : Int) == 4) = true := by simp [hl4]
        clear hl0 hl4 hch hR1
        go_wp2_with fail
        go_ret
        exact ⟨rfl, HB5.out⟩
      have tl4 : ((r.length : Int) == 4) = false := by rw [beq_eq_false_iff_ne]; omega
      have hrpos : 0 < r.length := by omega
      have hr4 : r.length ≤ 4 := by have := (gr_of HG.out).m4 a hal; rw [getD_row hal] at HGD; rw [HGD.out] at this; exact this
      obtain ⟨b1, p1, rfl, hbb1, hcc1⟩ := hR1.open (by simp; omega)
      have x2 := ints_at hcc1 hrpos
      rw [Nat.add_zero] at x2
      obtain ⟨f, hf⟩ : ∃ f, r[0] = f := ⟨_, rfl⟩
      rw [hf] at x2
      have HFM := Lib.hid (show f ∈ r by rw [← hf]; exact List.getElem_mem hrpos)
      have hfr := HLO.out f HFM.out
      have HR1 := Lib.hid hR1
      have hL4 := Lib.hid hl4
      clear hl0 hl4 hf hcc1
      by_cases hfn : (rs.length : Int) ≤ f
      · have tf : decide ((rs.length : Int) ≤ f) = true := decide_eq_true hfn
        clear hfn hch hR1
        go_wp2_with fail
        go_ret
        exact ⟨rfl, HB5.out⟩
      have tf : decide ((rs.length : Int) ≤ f) = false := decide_eq_false hfn
      obtain ⟨fn, rfl⟩ : ∃ fn : Nat, f = fn := ⟨f.toNat, by omega⟩
      have tfn : decide (rs.length ≤ fn) = false := decide_eq_false (by omega)
      have hfl : fn < rs.length := by omega
      have hfI : (fn : Int) < (rs.length : Int) := by omega
      obtain ⟨R2, cR2, hh2, hcR2, hR2⟩ := hat.2 fn hfl
      have x3 := hch fn _ hh2
      have HGD2 := Lib.hid (getD_row hfl)
      obtain ⟨r2, hre2⟩ : ∃ r2, rs[fn] = r2 := ⟨_, rfl⟩
      rw [hre2] at x3 hcR2 hR2 HGD2
      clear hh2 hre2 hfn hch hown hat
      by_cases hl2 : r2.length = 0
      · have tl2 : ((r2.length : Int) == 0) = true := by simp [hl2]
        clear hl2
        go_wp2_with fail
        go_ret
        exact ⟨rfl, HB5.out⟩
      have tl2 : ((r2.length : Int) == 0) = false := by rw [beq_eq_false_iff_ne]; omega
      have hr2pos : 0 < r2.length := by omega
      obtain ⟨b2, p2, rfl, hbb2, hcc2⟩ := hR2.open (by simp; omega)
      have x4 := ints_at hcc2 hr2pos
      rw [Nat.add_zero] at x4
      obtain ⟨u, hu⟩ : ∃ u, r2[0] = u := ⟨_, rfl⟩
      rw [hu] at x4
      have HUM := Lib.hid (show u ∈ r2 by rw [← hu]; exact List.getElem_mem hr2pos)
      have hr2I : (0 : Int) < (r2.length : Int) := by omega
      have HPO := Lib.hid (peo_once HG.out hal hfl (by rw [HGD.out]; exact HFM.out) (by rw [HGD2.out]; exact HUM.out) (by rw [HGD.out]; exact hL4.out) HV.out)
      rw [HGD.out] at HPO
      have HST := Lib.hid (first_litG w5 w5.heap.size w5.heap.size (Nat.le_refl _) rfl)
      have HHL := Lib.hid (show hs.length = rs.length * 1 by rw [Nat.mul_one]; exact HAT.out.1)
      have HOA := Lib.hid (HO6.out.below ((Below.refl w5.heap.size w5).alloc (Nat.le_refl _) (.cells #[] 24)))
      have H1 := Lib.hid (heads_one HAT.out)
      clear hl2 hu hcc2 hR2 hR1
      go_wp2_with (at_builtin; refine wpList_extend rfl (.tmp 74) (.tmp 75) 22 rfl j0 (.slice none 0 0) 24 Try.underlying22 hj0 hy0 hy1 hy2 rfl (by decide) _ _ rfl HST.out _ _ _ _ hs rfl HHL.out HOA.out.row H1.out (by omega) (by omega) (by simp) ?_)
      intro H7 c7 w7 hown7 hg7
      try simp only [Nat.zero_add, List.nil_append] at hown7
      try simp only [Nat.zero_add]
      have hb7 : Below w5.heap.size w5 w7 := ((Below.refl w5.heap.size w5).alloc (Nat.le_refl _) (.cells #[] 24)).grown hg7 (by simp) (fun i hi => (HST.out.lt _ hi).1)
      obtain ⟨gO, rfl, hgO1, hgO2⟩ := own_some hown7 (by omega)
      have hyc := hown7.cellAt a (by omega)
      have hyf := hown7.frozenAt a
      obtain ⟨yh, hyh⟩ : ∃ yh, hs[a]? = some yh := ⟨_, List.getElem?_eq_getElem (by rw [HAT.out.1]; exact hal)⟩
      rw [hyh] at hyc
      have s7 := hb7.size
      have HB7 := Lib.hid hb7
      have HOW7 := Lib.hid hown7
      have HKEEP := Lib.hid (fun (X : World) (hX : Below w5.heap.size w5 X) => show (X.cell? ⟨bh, oh + a, none⟩ = some (.slice (some ⟨b1, p1, none⟩) r.length cR1) ∧ X.cell? ⟨bh, oh + fn, none⟩ = some (.slice (some ⟨b2, p2, none⟩) r2.length cR2)) ∧ X.cell? ⟨b2, p2, none⟩ = some (.int .i64 u) from
        ⟨⟨(hX.cell (p := ⟨bh, oh + a, none⟩) hbh).trans x1, (hX.cell (p := ⟨bh, oh + fn, none⟩) hbh).trans x3⟩, (hX.cell (p := ⟨b2, p2, none⟩) hbb2).trans x4⟩)
      have HKO := Lib.hid (fun (X : World) (hX : Below w7.heap.size w7 X) => show X.cell? ⟨gO, a, none⟩ = some yh ∧ X.frozen? ⟨gO, a, none⟩ = false from ⟨(hX.cell (p := ⟨gO, a, none⟩) hgO2).trans hyc, (hX.frozen (p := ⟨gO, a, none⟩) hgO2).trans hyf⟩)
      have HSR := Lib.hid (show Own w7 0 w7.heap.size (some ⟨b1, p1, none⟩) (r.map (Value.int .i64)) from ((HR1.out.below hb7).more s7).row)
      have HIL := Lib.hid (show (r.map (Value.int .i64)).length = r.length * 1 by rw [List.length_map, Nat.mul_one])
      obtain ⟨m, hm⟩ : ∃ m, r.length = m := ⟨_, rfl⟩
      have HMR := Lib.hid hm
      rw [hm] at HKEEP HIL hr4
      have hm0 : 0 < m := by omega
      clear x1 x2 x3 x4 hyh hyc hyf hg7 hb7 hown7 t0 tn tnn tl tl4 tf tfn tl2 hm hrpos
      go_wp2_with fail
      go_region_held3 (fun w' => (w'.cell? ⟨bh, oh + a, none⟩ = some (.slice (some ⟨b1, p1, none⟩) m cR1) ∧ w'.cell? ⟨bh, oh + fn, none⟩ = some (.slice (some ⟨b2, p2, none⟩) r2.length cR2)) ∧ w'.cell? ⟨b2, p2, none⟩ = some (.int .i64 u))
        (exact HKEEP.out _ (by first | exact (HB7.out.trans ((below_g hgB (Nat.le_refl _)).mono s7)).setCell (p := ⟨gO, a, none⟩) hgO1 _ | exact HB7.out.trans ((below_g hgB (Nat.le_refl _)).mono s7) | exact HB7.out.trans ((below_g (g_alloc hgA _) (Nat.le_refl _)).mono s7) | exact HB7.out.trans ((below_g hgA (Nat.le_refl _)).mono s7) | exact HB7.out.trans ((below_g (g_alloc (g_alloc (g_drew (World.grownBy.refl w7 none)) _) _) (Nat.le_refl _)).mono s7) | exact HB7.out.trans ((below_g (g_alloc (g_drew (World.grownBy.refl w7 none)) _) (Nat.le_refl _)).mono s7) | exact HB7.out.trans ((below_g (g_drew (World.grownBy.refl w7 none)) (Nat.le_refl _)).mono s7) | exact HB7.out))
        (first
        | (refine step_extend (w := w7.drew.alloc (.cells #[] 3)) (by rfl) (.tmp 79) (.tmp 83) 24 (by rfl) i0 (.int .i64 0) 8 Try.underlying24 hi0 hz0 hz1 hz2 rfl (by decide) _ _ (by rfl) (first_lit _ w7.heap.size (Nat.le_refl _)) _ _ _ _ _ (by rfl) HIL.out (HSR.out.grownN (Nat.le_refl _) (g_alloc (g_drew (World.grownBy.refl w7 none)) _)) (int_cells _) (by omega) (by omega) (g_alloc (g_drew (World.grownBy.refl w7 none)) _).size ?_; intro A2 c2' w2 hown2 hg2; simp only [Nat.zero_add]; have hgA : w7.grownBy w2 none := g_new (g_alloc (g_drew (World.grownBy.refl w7 none)) _) hg2 (fun i hi => ((first_lit w7.drew w7.heap.size (Nat.le_refl _)).lt _ hi).1); have hown2' : w2.ownsRow w7.heap.size 3 1 (.slice A2 m c2') m (r.map (Value.int .i64)) := (by simpa using hown2))
        | (refine step_extend (w := (w7.drew.alloc (.cells #[] 3)).alloc (.cells #[.int .i64 u] 3)) (by rfl) (.tmp 79) (.tmp 83) 24 (by rfl) i0 (.int .i64 0) 8 Try.underlying24 hi0 hz0 hz1 hz2 rfl (by decide) _ _ (by rfl) ((first_lit _ w7.heap.size (Nat.le_refl _)).alloc _) _ _ _ _ _ (by rfl) HIL.out (HSR.out.grownN (Nat.le_refl _) (g_alloc (g_alloc (g_drew (World.grownBy.refl w7 none)) _) _)) (int_cells _) (by omega) (by omega) (g_alloc (g_alloc (g_drew (World.grownBy.refl w7 none)) _) _).size ?_; intro A2 c2' w2 hown2 hg2; simp only [Nat.zero_add]; have hgA : w7.grownBy w2 none := g_new (g_alloc (g_alloc (g_drew (World.grownBy.refl w7 none)) _) _) hg2 (fun i hi => (((first_lit w7.drew w7.heap.size (Nat.le_refl _)).alloc (.cells #[.int .i64 u] 3)).lt _ hi).1); have hown2' : w2.ownsRow w7.heap.size 3 1 (.slice A2 m c2') m (r.map (Value.int .i64)) := (by simpa using hown2); have hsb : Own w2 0 (w7.heap.size + 2) (some ⟨w7.heap.size + 1, 0, none⟩) [.int .i64 u] := src_b w7.drew _ #[.int .i64 u] 3 hg2)
        | (refine step_extend (w := (w7.drew.alloc (.cells #[.int .i64 u] 3)).alloc (.cells #[] 3)) (by rfl) (.tmp 79) (.tmp 83) 24 (by rfl) i0 (.int .i64 0) 8 Try.underlying24 hi0 hz0 hz1 hz2 rfl (by decide) _ _ (by rfl) (first_lit' _ w7.heap.size (w7.heap.size + 1) (g_alloc (g_drew (World.grownBy.refl w7 none)) _).size (World.size_alloc _ _)) _ _ _ _ _ (by rfl) HIL.out (HSR.out.grownN (Nat.le_refl _) (g_alloc (g_alloc (g_drew (World.grownBy.refl w7 none)) _) _)) (int_cells _) (by omega) (by omega) (g_alloc (g_alloc (g_drew (World.grownBy.refl w7 none)) _) _).size ?_; intro A2 c2' w2 hown2 hg2; simp only [Nat.zero_add]; have hgA : w7.grownBy w2 none := g_new (g_alloc (g_alloc (g_drew (World.grownBy.refl w7 none)) _) _) hg2 (fun i hi => ((first_lit' (w7.drew.alloc (.cells #[.int .i64 u] 3)) w7.heap.size (w7.heap.size + 1) (g_alloc (g_drew (World.grownBy.refl w7 none)) _).size (World.size_alloc _ _)).lt _ hi).1); have hown2' : w2.ownsRow w7.heap.size 3 1 (.slice A2 m c2') m (r.map (Value.int .i64)) := (by simpa using hown2); have hsb : Own w2 0 (w7.heap.size + 1) (some ⟨w7.heap.size, 0, none⟩) [.int .i64 u] := src_c w7.drew _ #[.int .i64 u] 3 hg2)
        | (refine step_extend (w := w2) (by rfl) (.tmp 84) (.tmp 91) 24 (by rfl) i0 (.int .i64 0) 8 Try.underlying24 hi0 hz0 hz1 hz2 rfl (by decide) _ _ (by rfl) hown2' _ _ _ _ [.int .i64 u] (by rfl) (by simp) hsb (by simp [Value.oneCell']) (by omega) (by omega) hgA.size ?_; intro A3 c3' w3 hown3 hg3; have hgB : w7.grownBy w3 none := g_new hgA hg3 (fun i hi => (hown2'.lt _ hi).1); have hk1 := (HKO.out w3 (below_g hgB (Nat.le_refl _))).1; have hk2 := (HKO.out w3 (below_g hgB (Nat.le_refl _))).2)
        | (refine step_extend (w := w2.alloc (.cells #[.int .i64 u] 3)) (by rfl) (.tmp 84) (.tmp 91) 24 (by rfl) i0 (.int .i64 0) 8 Try.underlying24 hi0 hz0 hz1 hz2 rfl (by decide) _ _ (by rfl) (hown2'.alloc _) _ _ _ _ [.int .i64 u] (by rfl) (by simp) (own_new w2 #[.int .i64 u] 3) (by simp [Value.oneCell']) (by omega) (by omega) (g_alloc hgA _).size ?_; intro A3 c3' w3 hown3 hg3; have hgB : w7.grownBy w3 none := g_new (g_alloc hgA _) hg3 (fun i hi => (hown2'.lt _ hi).1); have hk1 := (HKO.out w3 (below_g hgB (Nat.le_refl _))).1; have hk2 := (HKO.out w3 (below_g hgB (Nat.le_refl _))).2))
      all_goals
        have hs3 := hgB.size
        have hb3 := below_g hgB (Nat.le_refl w7.heap.size)
        have hR3 : Ints w3 w3.heap.size A3 (r ++ [u]) := by
          have h1 : w3.ownsRow w7.heap.size 3 1 (.slice A3 (m + 1) c3') (m + 1) ((r ++ [u]).map (Value.int .i64)) := by rw [List.map_append]; exact hown3
          exact (own_of_rowS (by decide) h1).row
        have hA3 : ∀ b o, A3 = some ⟨b, o, none⟩ → b ≠ gO := fun b o e => by
          have := (hown3.lt b (by rw [e]; rfl)).1; omega
        have hGR := grid_swap (w4 := w3) (c3 := c3') (HAT.out.below HB7.out) hgO1 hgO2 (own_of_rowS (by decide) HOW7.out).row hb3 hal hR3 hA3 (by have h1 := own_cap hown3; rw [List.length_append, HMR.out]; exact h1)
        rw [show (r ++ [u]).length = m + 1 by rw [List.length_append, HMR.out]; rfl] at hGR
        have hsz3 : (w3.setCell ⟨gO, a, none⟩ (.slice A3 (m + 1) c3')).heap.size = w3.heap.size := by simp
        have hBS : Below w5.heap.size w5 (w3.setCell ⟨gO, a, none⟩ (.slice A3 (m + 1) c3')) := (HB7.out.trans (hb3.mono s7)).setCell (p := ⟨gO, a, none⟩) hgO1 _
        have hCALL := impPeopleOf_any (some ⟨gO, 0, none⟩) c7 (rs.set a (r ++ [u])) (a : Int) V (w3.setCell ⟨gO, a, none⟩ (.slice A3 (m + 1) c3')) (by rw [hsz3]; exact hGR) (fun q hq => by
          rcases List.mem_or_eq_of_mem_set hq with hq | rfl
          · exact HM.out q hq
          · rw [List.length_append, HMR.out]; simp; omega) HPO.out
        rw [List.length_set] at hCALL
        have HC9 := Lib.hid hCALL
        have HBS := Lib.hid (And.intro hBS (O5.out.past hBS))
        clear hCALL hGR hA3 hR3 hb3 hBS hown3 hgB hk1 hk2
        clear hown2 hown2' hgA
        go_wp2_with fail
        refine HC9.out.mono ?_
        rintro e w9 ⟨A9, c9, rfl, hc9, o9, hb9⟩
        have H9 := Lib.hid (And.intro o9.row (And.intro (HBS.out.2.past hb9) (HB5.out.trans ((HBS.out.1.mono s5).trans (hb9.mono (by have := HBS.out.1.size; omega))))))
        clear o9 hb9 hc9
        go_wp2_with fail
        refine (equalInts_one _ _ _ _ V w9 H9.out.1 H9.out.2.1 (by omega)).mono ?_
        rintro e w10 ⟨rfl, hb10⟩
        have H10 := Lib.hid (H9.out.2.2.trans (hb10.mono H9.out.2.2.size))
        clear hb10
        go_wp2_with fail
        go_ret
        exact ⟨rfl, H10.out⟩
    · have hg' : groupsB rs = false := by simpa using hg
      rw [hg']
      clear hg hg'
      go_wp2_with fail
      go_ret
      exact ⟨rfl, HB5.out⟩
  · go_enter Try.func7, Try.ntmps7
    go_wp2
    go_ret
    exact ⟨rfl, Below.refl _ _⟩
end Go.Proofs.Ytldbefmiabgkhab
