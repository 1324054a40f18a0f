/- spec.stacksBy, spec.StacksOf. No condition. -/
import Derived.Test.YthfmmdigecjfnaaI5
import Derived.Test.YthfmmdigecjfnaaG3
namespace Go.Proofs.Ythfmmdigecjfnaa
open Go.RowKit

theorem lisTo_new {zs : List Int} {i : Nat} (h : stk zs i = lisTo zs i) : lisTo zs (i + 1) = lisTo zs i + 1 := by
  have := up_pos zs i
  simp only [lisTo]; unfold stk at h; omega
theorem lisTo_old {zs : List Int} {i : Nat} (h : stk zs i < lisTo zs i) : lisTo zs (i + 1) = lisTo zs i := by
  have := up_pos zs i
  simp only [lisTo]; unfold stk at h; omega
theorem tab_snoc (n : Nat) (f : Nat → Int) : tab (n + 1) f = tab n f ++ [f n] := by
  unfold tab; rw [List.range_succ, List.map_append]; rfl
/-- Where the search of a stack stands. -/
def selS (u k : Nat) : Int := if k ≤ u then -1 else (u : Int)
theorem selS_lo {u k : Nat} (h : k ≤ u) : selS u k = -1 := by simp [selS, h]
theorem selS_hi {u k : Nat} (h : u < k) : selS u k = (u : Int) := by simp [selS]; omega

theorem at_form {A A' : Option Addr} {k : Nat} (h : A'.map (·.block) = A.map (·.block) ∨ ∃ a, A' = some a ∧ a.block = k) : A'.map (·.block) = A.map (·.block) ∨ A'.map (·.block) = some k := by
  rcases h with h | ⟨a, h1, h2⟩
  · exact .inl h
  · right; rw [h1]; simp [h2]
theorem keep_other {w w' : World} {base : Nat} {e : TypeId} {size n c m d : Nat} {H H2 : Option Addr} {xs : List Value} (h : w.ownsRow base e size (.slice H n c) n xs) (hg : w.grownBy w' (Value.slice H2 m d).ownBlock) (hne : H.map (·.block) ≠ H2.map (·.block)) : w'.ownsRow base e size (.slice H n c) n xs :=
  h.kept hg (.inr (by rw [slice_block, slice_block]; exact hne))
theorem ne_new {w : World} {base : Nat} {e : TypeId} {size n c k : Nat} {H H2 H2' : Option Addr} {xs : List Value} (h : w.ownsRow base e size (.slice H n c) n xs) (hne : H.map (·.block) ≠ H2.map (·.block)) (hat : H2'.map (·.block) = H2.map (·.block) ∨ H2'.map (·.block) = some k) (hk : w.heap.size ≤ k) : H.map (·.block) ≠ H2'.map (·.block) := by
  rcases hat with e | e
  · rw [e]; exact hne
  · rw [e]
    intro e2
    have := (h.lt k (by rw [slice_block]; exact e2)).2
    omega
theorem some_new {H H' : Option Addr} {k : Nat} (hs : (H.map (·.block)).isSome = true) (hat : H'.map (·.block) = H.map (·.block) ∨ H'.map (·.block) = some k) : (H'.map (·.block)).isSome = true := by
  rcases hat with e | e
  · rw [e]; exact hs
  · rw [e]; rfl

set_option maxRecDepth 100000 in
set_option maxHeartbeats 8000000 in
theorem specStacksBy_any (A : Option Addr) (c0 : Nat) (zs : List Int) (w : World) (hr : Ints w w.heap.size A zs) (hv : rowB 9 zs = true) :
    Calls Try.prog 42 #[.slice A zs.length c0] w (iRes w (stacksL zs)) := by
  obtain ⟨i0, hi0, hz0, hz1, hz2⟩ := info_parts Try.info3
  have hl := rowB_len hv
  have HV := Lib.hid hv
  clear hv
  have HS1 := Lib.hid ((first_litI w).alloc (.cells #[] 3))
  have HS2 := Lib.hid (show ((w.alloc (.cells #[] 3)).alloc (.cells #[] 3)).ownsRow w.heap.size 3 1 (.slice (some ⟨w.heap.size + 1, 0, none⟩) 0 0) 0 [] by
    have := own_base (first_litI (w.alloc (.cells #[] 3))) (by simp : w.heap.size ≤ (w.alloc (.cells #[] 3)).heap.size)
    rwa [World.size_alloc] at this)
  go_enter Try.func42, Try.ntmps42
  go_wp2
  go_loopw [3, 4, 5] (fun t v j wr => ∃ (i L : Nat) (H H2 : Option Addr) (c1 c2 : Nat), i ≤ zs.length ∧ j = .int .i64 i ∧ t = .slice H L c1 ∧ v = .slice H2 i c2 ∧ lisTo zs i = L ∧
      wr.ownsRow w.heap.size 3 1 (.slice H L c1) L ((topsL zs i).map (Value.int .i64)) ∧ wr.ownsRow w.heap.size 3 1 (.slice H2 i c2) i ((tab i fun i => (stk zs i : Int)).map (Value.int .i64)) ∧ H.map (·.block) ≠ H2.map (·.block) ∧ (H.map (·.block)).isSome = true ∧ (H2.map (·.block)).isSome = true ∧ Below w.heap.size w wr) (fun _ _ j _ => zs.length - (intOf j).toNat)
  case atStart => exact ⟨0, 0, _, _, _, _, by omega, rfl, rfl, rfl, rfl, HS1.out, HS2.out, by simp, rfl, rfl, ((Below.refl _ _).alloc (Nat.le_refl _) _).alloc (by simp) _⟩
  case round =>
    obtain ⟨i, L, H, H2, c1, c2, hi, rfl, rfl, rfl, hL, hown1, hown2, hne, hs1, hs2, hbr⟩ := hrel
    have HL := Lib.hid hL
    have HO1 := Lib.hid hown1
    have HO2 := Lib.hid hown2
    have HNE := Lib.hid (And.intro hne (And.intro hs1 hs2))
    have HBR := Lib.hid hbr
    have hbz := hbr.size
    have hLi : L ≤ i := by have := lisTo_le zs i; omega
    obtain ⟨W, hW⟩ : ∃ W : World, W = wr := ⟨_, rfl⟩
    subst hW
    by_cases hlt : i < zs.length
    · obtain ⟨b, o, rfl, hb, hc⟩ := (hr.below hbr).open (by simp; omega)
      have hcI := ints_atD hc hlt
      have hu1 := stk_le_len zs i
      have htg : ∀ k, k < L → (zs.getD i 0 < (topsL zs i).getD k 0 ↔ stk zs i ≤ k) := fun k hk => tops_gt HV.out hlt (by omega)
      have htu : ∀ k, stk zs i < k → k < L → (topsL zs i).getD (stk zs i) 0 < (topsL zs i).getD k 0 := fun k h1 h2 => tops_up HV.out (by omega) h1 (by omega)
      obtain ⟨x, hx⟩ : ∃ x, zs.getD i 0 = x := ⟨_, rfl⟩
      rw [hx] at hcI htg
      obtain ⟨u, hu⟩ : ∃ u, stk zs i = u := ⟨_, rfl⟩
      rw [hu] at hu1 htg htu
      rw [HL.out] at hu1
      have HTG := Lib.hid htg
      have HTU := Lib.hid htu
      have HX := Lib.hid (And.intro hx hu)
      clear hc hx hu hL hown1 hown2 hbr hne hs1 hs2 htg htu
      go_wp2_with fail
      go_loopw [6, 7] (fun a j wr => ∃ k : Nat, k ≤ L ∧ j = .int .i64 k ∧ a = .int .i64 (selS u k) ∧ ∃ q, wr = W.drewN q) (fun _ j _ => L - (intOf j).toNat)
      case atStart => exact ⟨0, by omega, rfl, by rw [selS_lo (by omega)], 0, rfl⟩
      case round =>
        obtain ⟨k, hk, rfl, rfl, q, hq⟩ := hrel
        have HQ := Lib.hid hq
        have hcI2 : wr.cell? ⟨b, o + i, none⟩ = some (.int .i64 x) := by rw [hq]; exact hcI
        by_cases hlt2 : k < L
        · obtain ⟨g, rfl, _, _⟩ := own_some HO1.out (by omega)
          have htl := tops_len zs i
          have hat : ∀ j, j < L → wr.cell? ⟨g, j, none⟩ = some (.int .i64 ((topsL zs i).getD j 0)) := fun j hj => by
            rw [hq]
            have := HO1.out.cellAt j (by omega)
            rw [List.getElem?_map, List.getElem?_eq_getElem (by rw [htl, HL.out]; exact hj), ← getD_get] at this
            exact this
          have hatk := hat k hlt2
          have hatu : u < L → wr.cell? ⟨g, u, none⟩ = some (.int .i64 ((topsL zs i).getD u 0)) := hat u
          have hg := HTG.out k hlt2
          have hgu := fun h => HTU.out k h hlt2
          obtain ⟨tk, htk⟩ : ∃ t, (topsL zs i).getD k 0 = t := ⟨_, rfl⟩
          obtain ⟨tu, htu⟩ : ∃ t, (topsL zs i).getD u 0 = t := ⟨_, rfl⟩
          rw [htk] at hatk hg hgu
          rw [htu] at hatu hgu
          have hkI : (k : Int) < L := by omega
          have hk0 : (0 : Int) ≤ (k : Int) := by omega
          have hiI : (i : Int) < zs.length := by omega
          have hi0' : (0 : Int) ≤ (i : Int) := by omega
          clear hat htl hq htk htu hcI
          by_cases h1 : u ≤ k
          · have hd : decide (x < tk) = true := decide_eq_true (hg.2 h1)
            by_cases h2 : k = u
            · subst h2
              rw [selS_lo (Nat.le_refl _)]
              clear hg hgu hatu h1
              go_wp2
              go_quiet (fail)
              go_simp
              go_wp2
              go_roundw
              case rel => exact ⟨k + 1, by omega, by go_num, by rw [selS_hi (by omega)], by rw [HQ.out]; exact ⟨_, World.drewN_drewN ..⟩⟩
              case measure => simp [intOf]; omega
            · rw [selS_hi (by omega)]
              have hd2 : decide (tk < tu) = false := decide_eq_false (by have := hgu (by omega); omega)
              have hd3 : decide ((u : Int) < 0) = false := decide_eq_false (by omega)
              have hatu2 := hatu (by omega)
              have huI : (u : Int) < L := by omega
              have hu0 : (0 : Int) ≤ (u : Int) := by omega
              clear hg hgu hatu
              go_wp2
              go_quiet (fail)
              go_simp
              go_wp2
              go_roundw
              case rel => exact ⟨k + 1, by omega, by go_num, by rw [selS_hi (by omega)], by rw [HQ.out]; exact ⟨_, World.drewN_drewN ..⟩⟩
              case measure => simp [intOf]; omega
          · have hd : decide (x < tk) = false := decide_eq_false (fun h => h1 (hg.1 h))
            rw [selS_lo (by omega)]
            clear hg hgu hatu
            go_wp2
            go_quiet (fail)
            go_simp
            go_wp2
            go_roundw
            case rel => exact ⟨k + 1, by omega, by go_num, by rw [selS_lo (by omega)], by rw [HQ.out]; exact ⟨_, World.drewN_drewN ..⟩⟩
            case measure => simp [intOf]; omega
        · have hkL : k = L := by omega
          have hown1 : wr.ownsRow w.heap.size 3 1 (.slice H L c1) L ((topsL zs i).map (Value.int .i64)) := by rw [hq]; exact HO1.out
          have hown2 : wr.ownsRow w.heap.size 3 1 (.slice H2 i c2) i ((tab i fun i => (stk zs i : Int)).map (Value.int .i64)) := by rw [hq]; exact HO2.out
          have hbw : Below w.heap.size w wr := by rw [hq]; exact below_drewN HBR.out q
          have hbz2 := hbw.size
          have HB2 := Lib.hid hbw
          obtain ⟨T, hT⟩ : ∃ T, topsL zs i = T := ⟨_, rfl⟩
          obtain ⟨O, hO⟩ : ∃ O, (tab i fun i => (stk zs i : Int)) = O := ⟨_, rfl⟩
          rw [hT] at hown1
          rw [hO] at hown2
          have HTT := Lib.hid hT
          have HOO := Lib.hid hO
          clear hq hcI hbw hT hO
          by_cases hul : u < L
          · rw [selS_hi (by omega)]
            have hd3 : decide ((u : Int) < 0) = false := decide_eq_false (by omega)
            obtain ⟨g, rfl, _, _⟩ := own_some hown1 (by omega)
            have hTl : T.length = L := by rw [← HTT.out, tops_len, HL.out]
            have hst := hown1.stored u (.int .i64 x)
            have hfr := hown1.frozenAt u
            have hat : wr.cell? ⟨g, u, none⟩ = some (.int .i64 (T.getD u 0)) := by
              have := hown1.cellAt u (by omega)
              rw [List.getElem?_map, List.getElem?_eq_getElem (by rw [hTl]; exact hul), ← getD_get] at this
              exact this
            obtain ⟨tu, htu⟩ : ∃ t, T.getD u 0 = t := ⟨_, rfl⟩
            rw [htu] at hat
            have hown2' := keep_other (H2 := some ⟨g, 0, none⟩) (m := L) (d := c1) hown2 hst.2 (fun e => HNE.out.1 e.symm)
            have hb3 := HB2.out.grown hst.2 hbz2 (fun i hi => by injection hi with hi; subst hi; exact (hown1.lt _ rfl).1)
            have hTN : topsL zs (i + 1) = T.set u x := by rw [tops_old (by rw [HX.out.2, HL.out]; exact hul), HX.out.1, HX.out.2, HTT.out]
            have HF := Lib.hid (And.intro hTN (show lisTo zs (i + 1) = L by rw [lisTo_old (by rw [HX.out.2, HL.out]; exact hul), HL.out]))
            obtain ⟨V, hVV⟩ : ∃ V, wr.setCell ⟨g, u, none⟩ (.int .i64 x) = V := ⟨_, rfl⟩
            rw [hVV] at hst hown2' hb3
            have HST := Lib.hid (And.intro hst.1 hb3)
            have hbz3 := hb3.size
            have HK := Lib.hid (show i + 1 ≤ zs.length by omega)
            have huI : (u : Int) < L := by omega
            have hu0 : (0 : Int) ≤ (u : Int) := by omega
            have hi9 : i ≤ 1000 := by omega
            clear hTl hst hown1 hown2 hb3 hTN htu hul hkL
            go_wp2_with (at_builtin; refine wpList_push_at rfl (.tmp 65) (.tmp 67) 22 rfl i0 (.int .i64 0) 8 Try.underlying22 hi0 hz0 hz1 hz2 rfl (by decide) _ _ rfl hown2' [.int .i64 (u : Int)] rfl rfl (by simp [Value.oneCell']) (by omega) (by omega) hbz3 ?_)
            intro H2' c2' w5 hown5 hg5 hat5
            have hat6 := at_form hat5
            have h1' := keep_other (H2 := H2) (m := i) (d := c2) HST.out.1 hg5 HNE.out.1
            have HW := Lib.hid (And.intro hown5 (And.intro h1' (And.intro (ne_new HST.out.1 HNE.out.1 hat6 (by omega)) (And.intro (some_new HNE.out.2.2 hat6) (HST.out.2.grown hg5 hbz3 (fun i hi => (hown2'.lt _ hi).1))))))
            clear hown5 h1' hg5 hat5 hat6 hown2'
            go_wp2
            go_roundw
            case rel =>
              refine ⟨i + 1, L, _, H2', c1, c2', HK.out, by go_num, rfl, rfl, HF.out.2, by rw [HF.out.1, List.map_set]; exact HW.out.2.1, ?_, HW.out.2.2.1, HNE.out.2.1, HW.out.2.2.2.1, HW.out.2.2.2.2⟩
              rw [tab_snoc, HOO.out, HX.out.2, List.map_append]
              exact HW.out.1
            case measure => have := HK.out; simp [intOf]; omega
          · have huL : u = L := by omega
            subst huL
            rw [selS_lo (by omega)]
            have hTN : topsL zs (i + 1) = T ++ [x] := by rw [tops_new (by rw [HX.out.2, HL.out]), HX.out.1, HTT.out]
            have HF := Lib.hid (And.intro hTN (show lisTo zs (i + 1) = u + 1 by rw [lisTo_new (by rw [HX.out.2, HL.out]), HL.out]))
            have hTl : T.length = u := by rw [← HTT.out, tops_len, HL.out]
            have HTL := Lib.hid hTl
            have HO22 := Lib.hid hown2
            have HK := Lib.hid (show i + 1 ≤ zs.length by omega)
            have hi9 : i ≤ 1000 := by omega
            clear hTl hown2 hTN hul hkL
            go_wp2_with (at_builtin; refine wpList_push_at rfl (.tmp 51) (.tmp 56) 22 rfl i0 (.int .i64 0) 8 Try.underlying22 hi0 hz0 hz1 hz2 rfl (by decide) _ _ rfl hown1 [.int .i64 x] rfl rfl (by simp [Value.oneCell']) (by omega) (by omega) hbz2 ?_)
            intro H' c1' w4 hown4 hg4 hat4
            have hat4' := at_form hat4
            have h2' := keep_other (H2 := H) (m := u) (d := c1) HO22.out hg4 (fun e => HNE.out.1 e.symm)
            have hne4 := ne_new HO22.out (fun e => HNE.out.1 e.symm) hat4' (by omega)
            have hsm4 := some_new HNE.out.2.1 hat4'
            have hb4 := HB2.out.grown hg4 hbz2 (fun i hi => (hown1.lt _ hi).1)
            have hcI4 : w4.cell? ⟨b, o + i, none⟩ = some (.int .i64 x) := (World.cell?_of_block (a := ⟨b, o + i, none⟩) (hg4.block b (by omega) (fun e => by have := (hown1.lt b e.symm).1; omega))).trans hcI2
            obtain ⟨g, rfl, _, _⟩ := own_some hown4 (by omega)
            have hst := hown4.stored u (.int .i64 x)
            have hfr := hown4.frozenAt u
            have hat : w4.cell? ⟨g, u, none⟩ = some (.int .i64 x) := by
              have := hown4.cellAt u (by omega)
              rw [List.getElem?_append_right (by rw [List.length_map, HTL.out]; exact Nat.le_refl _), List.length_map, HTL.out, Nat.sub_self] at this
              exact this
            have hset : (T.map (Value.int .i64) ++ [Value.int .i64 x]).set u (.int .i64 x) = T.map (Value.int .i64) ++ [Value.int .i64 x] := by
              rw [List.set_append_right _ _ (by rw [List.length_map, HTL.out]; exact Nat.le_refl _), List.length_map, HTL.out, Nat.sub_self]; rfl
            rw [hset] at hst
            have hown2' := keep_other (H2 := some ⟨g, 0, none⟩) (m := u + 1) (d := c1') h2' hst.2 hne4
            have hb5 := hb4.grown hst.2 hb4.size (fun i hi => by injection hi with hi; subst hi; exact (hown4.lt _ rfl).1)
            obtain ⟨V, hVV⟩ : ∃ V, w4.setCell ⟨g, u, none⟩ (.int .i64 x) = V := ⟨_, rfl⟩
            rw [hVV] at hst hown2' hb5
            have HST := Lib.hid (And.intro hst.1 (And.intro hb5 (And.intro hne4 hsm4)))
            have hbz5 := hb5.size
            have huI : (u : Int) < ((u + 1 : Nat) : Int) := by omega
            have hu0 : (0 : Int) ≤ (u : Int) := by omega
            clear hst hown1 hown4 hg4 hat4 hat4' h2' hne4 hsm4 hb4 hset hb5
            go_wp2_with (at_builtin; refine wpList_push_at rfl (.tmp 65) (.tmp 67) 22 rfl i0 (.int .i64 0) 8 Try.underlying22 hi0 hz0 hz1 hz2 rfl (by decide) _ _ rfl hown2' [.int .i64 (u : Int)] rfl rfl (by simp [Value.oneCell']) (by omega) (by omega) hbz5 ?_)
            intro H2' c2' w6 hown6 hg6 hat6
            have hat7 := at_form hat6
            have h1' := keep_other (H2 := H2) (m := i) (d := c2) HST.out.1 hg6 (fun e => HST.out.2.2.1 e.symm)
            have HW := Lib.hid (And.intro hown6 (And.intro h1' (And.intro (ne_new HST.out.1 (fun e => HST.out.2.2.1 e.symm) hat7 (by omega)) (And.intro (some_new HNE.out.2.2 hat7) (HST.out.2.1.grown hg6 hbz5 (fun i hi => (hown2'.lt _ hi).1))))))
            clear hown6 h1' hg6 hat6 hat7 hown2'
            go_wp2
            go_roundw
            case rel =>
              refine ⟨i + 1, u + 1, _, H2', c1', c2', HK.out, by go_num, rfl, rfl, HF.out.2, by rw [HF.out.1, List.map_append]; exact HW.out.2.1, ?_, HW.out.2.2.1, HST.out.2.2.2, HW.out.2.2.2.1, HW.out.2.2.2.2⟩
              rw [tab_snoc, HOO.out, HX.out.2, List.map_append]
              exact HW.out.1
            case measure => have := HK.out; simp [intOf]; omega
    · have hk' : i = zs.length := by omega
      subst hk'
      have HF := Lib.hid (iRes_row HO2.out (by rw [tab_length]) hbr)
      clear hown1 hown2 hL hbr hne hs1 hs2
      go_wp2
      go_ret
      exact HF.out

theorem stacksL_len (zs : List Int) : (stacksL zs).length = zs.length := by simp [stacksL, tab_length]
def stkV (zs : List Int) : List Int := if rowB 9 zs then stacksL zs else []
theorem stkV_yes {zs : List Int} (h : rowB 9 zs = true) : stkV zs = stacksL zs := by simp [stkV, h]
theorem stkV_no {zs : List Int} (h : rowB 9 zs = false) : stkV zs = [] := by simp [stkV, h]
theorem stkV_len (zs : List Int) : (stkV zs).length ≤ 9 := by
  unfold stkV
  by_cases h : rowB 9 zs = true
  · rw [if_pos h, stacksL_len]; exact rowB_len h
  · rw [if_neg h]; simp

set_option maxRecDepth 100000 in
theorem specStacksOf_any (A : Option Addr) (c0 : Nat) (zs : List Int) (w : World) (hr : Ints w w.heap.size A zs) (hl : zs.length ≤ 9000000000000000000) :
    Calls Try.prog 15 #[.slice A zs.length c0] w (iRes w (stkV zs)) := by
  have hva := specValidRow9_any A c0 zs w hr hl
  by_cases hv : rowB 9 zs = true
  · rw [hv] at hva
    have HVA := Lib.hid hva
    have HRI := Lib.hid (specStacksBy_any A c0 zs w hr hv)
    rw [stkV_yes hv]
    clear hva hv
    go_enter Try.func15, Try.ntmps15
    go_wp2_with (go_at_call 41; refine HVA.out.mono ?_; rintro e w' ⟨rfl, rfl⟩)
    refine HRI.out.mono ?_
    intro e w1 hres
    have HF := Lib.hid hres
    obtain ⟨A1, c1, rfl, -, -, -⟩ := hres
    go_wp2_with fail
    go_ret
    exact HF.out
  · have hv' : rowB 9 zs = false := by simpa using hv
    rw [hv'] at hva
    have HVA := Lib.hid hva
    rw [stkV_no hv']
    clear hva hv hv'
    go_enter Try.func15, Try.ntmps15
    go_wp2_with (go_at_call 41; refine HVA.out.mono ?_; rintro e w' ⟨rfl, rfl⟩)
    go_ret
    exact iRes.none rfl (Below.refl _ _)
end Go.Proofs.Ythfmmdigecjfnaa
