/- What 'spec.someRow' draws. No condition. -/
import Derived.Test.YtdgdlmpmoafkgaaDr
import Derived.Test.YtdgdlmpmoafkgaaRd2
import Derived.Test.YtdgdlmpmoafkgaaS1
namespace Go.Proofs.Ytdgdlmpmoafkgaa
open Go.RowKit

theorem own_some' {w : World} {base : Nat} {e : TypeId} {size n c : Nat} {A : Option Addr} {xs : List Value} (h : w.ownsRow base e size (.slice A n c) n xs) (hn : 0 < n) : ∃ g, A = some ⟨g, 0, none⟩ := by
  obtain ⟨g, hA, _⟩ := own_some h hn
  exact ⟨g, hA⟩

theorem own_out {w : World} {base : Nat} {e : TypeId} {n c g : Nat} {xs : List Value} (h : w.ownsRow base e 1 (.slice (some ⟨g, 0, none⟩) n c) n xs) : Own w (base + 1) w.heap.size (some ⟨g, 0, none⟩) xs := by
  obtain ⟨A, c', hv, _, ho⟩ := own_of_row h
  simp only [Value.slice.injEq] at hv
  obtain ⟨rfl, _, _⟩ := hv
  exact ho

theorem first_lit (W : World) (base : Nat) (h : base ≤ W.heap.size) : (W.alloc (.cells #[] 3)).ownsRow base 3 1 (.slice (some ⟨W.heap.size, 0, none⟩) 0 0) 0 [] :=
  World.ownsRow_lit W #[] 0 h (by simp [maxLen]) rfl

theorem first_lit' (W : World) (base g : Nat) (h : base ≤ W.heap.size) (hg : W.heap.size = g) : (W.alloc (.cells #[] 3)).ownsRow base 3 1 (.slice (some ⟨g, 0, none⟩) 0 0) 0 [] := by
  subst hg; exact first_lit W base h

set_option maxRecDepth 100000 in
set_option maxHeartbeats 4000000 in
theorem rowOf_any (g p : Nat) (n : Int) (w : World) (hrd : Rd w g p) (hp : p ≤ 100000) (hn : n ≤ 10000) :
    Calls Try.prog 57 #[.pointer (some ⟨g, 0, none⟩), .int .i64 n] w fun e w' => ∃ (A : Option Addr) (c : Nat) (zs : List Int),
      e = .returned (.slice A zs.length c) ∧ zs.length = n.toNat ∧ zs.length ≤ c ∧ OwnInts w' w.heap.size w'.heap.size A zs ∧ (∃ q, q ≤ p + n.toNat + 2 ∧ Rd w' g q) ∧ w.grownBy w' (some g) := by
  obtain ⟨i0, hi0, hz0, hz1, hz2⟩ := info_parts Try.info3
  have hgl := hrd.lt
  have hstart : (w.alloc (.cells #[] 3)).ownsRow w.heap.size 3 1 (.slice (some ⟨w.heap.size, 0, none⟩) 0 0) 0 [] := World.ownsRow_lit w #[] 0 (Nat.le_refl _) (by simp [maxLen]) rfl
  have hga : w.grownBy (w.alloc (.cells #[] 3)) (some g) := World.grownBy_alloc w _ _
  have hrda : Rd (w.alloc (.cells #[] 3)) g p := hrd.own (World.grownBy_alloc w _ none) (by simp)
  go_enter Try.func57, Try.ntmps57
  go_wp2
  go_loopw [5, 6] (fun v i wr => ∃ (h : Nat) (c : Nat) (zs : List Int), v = .slice (some ⟨h, 0, none⟩) zs.length c ∧ i = .int .i64 zs.length ∧ zs.length ≤ n.toNat ∧
      wr.ownsRow w.heap.size 3 1 (.slice (some ⟨h, 0, none⟩) zs.length c) zs.length (zs.map (Value.int .i64)) ∧ Rd wr g (p + zs.length) ∧ w.grownBy wr (some g))
    (fun _ i _ => n.toNat - (intOf i).toNat)
  case atStart => exact ⟨_, _, [], rfl, rfl, by simp, hstart, hrda, hga⟩
  case round =>
    obtain ⟨h, c, zs, rfl, rfl, hk, hown, hrdr, hgr⟩ := hrel
    clear hstart hga hrda
    by_cases hlt : (zs.length : Int) < n
    · go_wp2_with fail
      refine (pick_any g _ _ _ hrdr (by omega) (by omega)).mono ?_
      rintro e w1 ⟨k, rfl, hkb, hrd1, hg1⟩
      obtain ⟨j, rfl⟩ := Int.eq_ofNat_of_zero_le hkb.1
      have hj := hkb.2 (by omega)
      have hjl : j ≤ zs.length := by omega
      have hown1 := hown.kept hg1 (own_ne hown hgl)
      have hgr1 := grown_trans hgr hg1
      have hcap := own_cap hown1
      have ho1 := (own_out hown1).row
      have hsrc1 := ho1.take j
      have hu := slice_upto h zs.length c j hjl hcap
      obtain ⟨o, hfr, ho⟩ := slice_from h zs.length c j hjl hcap
      have hsrc2 : Own w1 0 w1.heap.size (some ⟨h, o, none⟩) ((zs.map (Value.int .i64)).drop j) := by
        by_cases hjj : j < zs.length
        · rw [ho hjj]; have := ho1.drop j; rwa [Nat.zero_add] at this
        · exact .inl (List.drop_of_length_le (by simp; omega))
      have HO := Lib.hid ho
      have HS1 := Lib.hid hsrc1
      have HS2 := Lib.hid hsrc2
      have HOWN := Lib.hid hown1
      have HG := Lib.hid hgr1
      have HRD := Lib.hid hrd1
      clear ho hsrc1 hsrc2 hown1 hgr1 hrd1 hown hgr hrdr hg1 ho1 hkb
      go_wp2
      have hzn : (Value.int .i64 0).cells.size = 1 := rfl
      have hzl : zs.length ≤ 10000 := by omega
      have hones : ∀ u ∈ (zs.map (Value.int .i64)).take j, u.oneCell' = true := fun u hu => by
        obtain ⟨z, _, rfl⟩ := List.mem_map.1 (List.mem_of_mem_take hu); rfl
      have hones2 : ∀ u ∈ (zs.map (Value.int .i64)).drop j, u.oneCell' = true := fun u hu => by
        obtain ⟨z, _, rfl⟩ := List.mem_map.1 (List.mem_of_mem_drop hu); rfl
      have HZ1 := Lib.hid hones
      have HZ2 := Lib.hid hones2
      clear hones hones2
      go_region_law (first
        | (refine step_extend (w := w1.drew.alloc (.cells #[] 3)) (by rfl) (.tmp 19) (.tmp 22) 22 (by rfl) i0 (.int .i64 0) 8 Try.underlying22 hi0 hz0 hz1 hz2 rfl (by decide) _ _ (by rfl) (first_lit _ w1.heap.size (Nat.le_refl _)) _ _ _ _ _ (by rfl) (by simp; omega) (HS1.out.grownN (Nat.le_refl _) (g_alloc (g_drew (World.grownBy.refl w1 none)) _)) HZ1.out (by omega) (by omega) (g_alloc (g_drew (World.grownBy.refl w1 none)) _).size ?_; intro A2 c2 w2 hown2 hg2; have hgA : w1.grownBy w2 none := g_new (g_alloc (g_drew (World.grownBy.refl w1 none)) _) hg2 (fun i hi => ((first_lit w1.drew w1.heap.size (Nat.le_refl _)).lt _ hi).1); have hown2' : w2.ownsRow w1.heap.size 3 1 (.slice A2 j c2) j ((zs.map (Value.int .i64)).take j) := (by simpa using hown2))
        | (refine step_extend (w := (w1.drew.alloc (.cells #[] 3)).alloc (.cells #[.int .i64 (zs.length : Int)] 3)) (by rfl) (.tmp 19) (.tmp 22) 22 (by rfl) i0 (.int .i64 0) 8 Try.underlying22 hi0 hz0 hz1 hz2 rfl (by decide) _ _ (by rfl) ((first_lit _ w1.heap.size (Nat.le_refl _)).alloc _) _ _ _ _ _ (by rfl) (by simp; omega) (HS1.out.grownN (Nat.le_refl _) (g_alloc (g_alloc (g_drew (World.grownBy.refl w1 none)) _) _)) HZ1.out (by omega) (by omega) (g_alloc (g_alloc (g_drew (World.grownBy.refl w1 none)) _) _).size ?_; intro A2 c2 w2 hown2 hg2; have hgA : w1.grownBy w2 none := g_new (g_alloc (g_alloc (g_drew (World.grownBy.refl w1 none)) _) _) hg2 (fun i hi => (((first_lit w1.drew w1.heap.size (Nat.le_refl _)).alloc (.cells #[.int .i64 (zs.length : Int)] 3)).lt _ hi).1); have hown2' : w2.ownsRow w1.heap.size 3 1 (.slice A2 j c2) j ((zs.map (Value.int .i64)).take j) := (by simpa using hown2); have hsb : Own w2 0 (w1.heap.size + 2) (some ⟨w1.heap.size + 1, 0, none⟩) [.int .i64 (zs.length : Int)] := src_b w1.drew _ #[.int .i64 (zs.length : Int)] 3 hg2)
        | (refine step_extend (w := (w1.drew.alloc (.cells #[.int .i64 (zs.length : Int)] 3)).alloc (.cells #[] 3)) (by rfl) (.tmp 19) (.tmp 22) 22 (by rfl) i0 (.int .i64 0) 8 Try.underlying22 hi0 hz0 hz1 hz2 rfl (by decide) _ _ (by rfl) (first_lit' _ w1.heap.size (w1.heap.size + 1) (g_alloc (g_drew (World.grownBy.refl w1 none)) _).size (World.size_alloc _ _)) _ _ _ _ _ (by rfl) (by simp; omega) (HS1.out.grownN (Nat.le_refl _) (g_alloc (g_alloc (g_drew (World.grownBy.refl w1 none)) _) _)) HZ1.out (by omega) (by omega) (g_alloc (g_alloc (g_drew (World.grownBy.refl w1 none)) _) _).size ?_; intro A2 c2 w2 hown2 hg2; have hgA : w1.grownBy w2 none := g_new (g_alloc (g_alloc (g_drew (World.grownBy.refl w1 none)) _) _) hg2 (fun i hi => ((first_lit' (w1.drew.alloc (.cells #[.int .i64 (zs.length : Int)] 3)) w1.heap.size (w1.heap.size + 1) (g_alloc (g_drew (World.grownBy.refl w1 none)) _).size (World.size_alloc _ _)).lt _ hi).1); have hown2' : w2.ownsRow w1.heap.size 3 1 (.slice A2 j c2) j ((zs.map (Value.int .i64)).take j) := (by simpa using hown2); have hsb : Own w2 0 (w1.heap.size + 1) (some ⟨w1.heap.size, 0, none⟩) [.int .i64 (zs.length : Int)] := src_c w1.drew _ #[.int .i64 (zs.length : Int)] 3 hg2)
        | (refine step_extend (w := w2) (by rfl) (.tmp 23) (.tmp 25) 22 (by rfl) i0 (.int .i64 0) 8 Try.underlying22 hi0 hz0 hz1 hz2 rfl (by decide) _ _ (by rfl) hown2' _ _ _ _ [.int .i64 (zs.length : Int)] (by rfl) (by simp) hsb (by simp [Value.oneCell']) (by omega) (by omega) hgA.size ?_; intro A3 c3 w3 hown3 hg3; have hgB : w1.grownBy w3 none := g_new hgA hg3 (fun i hi => (hown2'.lt _ hi).1))
        | (refine step_extend (w := w2.alloc (.cells #[.int .i64 (zs.length : Int)] 3)) (by rfl) (.tmp 23) (.tmp 25) 22 (by rfl) i0 (.int .i64 0) 8 Try.underlying22 hi0 hz0 hz1 hz2 rfl (by decide) _ _ (by rfl) (hown2'.alloc _) _ _ _ _ [.int .i64 (zs.length : Int)] (by rfl) (by simp) (own_new w2 #[.int .i64 (zs.length : Int)] 3) (by simp [Value.oneCell']) (by omega) (by omega) (g_alloc hgA _).size ?_; intro A3 c3 w3 hown3 hg3; have hgB : w1.grownBy w3 none := g_new (g_alloc hgA _) hg3 (fun i hi => (hown2'.lt _ hi).1))
        | (refine step_extend (by rfl) (.tmp 26) (.tmp 29) 22 (by rfl) i0 (.int .i64 0) 8 Try.underlying22 hi0 hz0 hz1 hz2 rfl (by decide) _ _ (by rfl) hown3 _ _ _ _ _ (by rfl) (by simp) (HS2.out.grownN (Nat.le_refl _) hgB) HZ2.out (by omega) (by omega) hgB.size ?_; intro A4 c4 w4 hown4 hg4; have hgC : w1.grownBy w4 none := g_new hgB hg4 (fun i hi => (hown3.lt _ hi).1)))
      all_goals
        have hel : j + 1 + (zs.length - j) = zs.length + 1 := by omega
        simp only [hel] at hown4 ⊢
        clear hel
        obtain ⟨h4, rfl⟩ := own_some' hown4 (by omega)
        have hgD := g_new HG.out (show w1.grownBy w4 none from hgC) (fun i hi => by cases hi)
        have hrd4 := HRD.out.own hgC (fun i hi => by cases hi)
        have HZD := Lib.hid (And.intro hown4 (And.intro hgD hrd4))
        clear hown4 hgD hrd4 hgC hg4 hown3 hg3 hgB hg2 hown2 hown2' hgA
        try clear hsb
        go_wp2
        go_roundw
        case rel =>
          have hl' : (zs.take j ++ [(zs.length : Int)] ++ zs.drop j).length = zs.length + 1 := by simp; omega
          refine ⟨h4, c4, zs.take j ++ [(zs.length : Int)] ++ zs.drop j, by rw [hl'], by rw [hl']; go_num, by rw [hl']; omega, ?_, by rw [hl']; exact HZD.out.2.2, HZD.out.2.1⟩
          rw [hl']
          have hq := own_base HZD.out.1 (base' := w.heap.size) HG.out.size
          simpa [List.map_append, List.map_take, List.map_drop] using hq
        case measure => simp [intOf]; omega
    · have HN := Lib.hid (show zs.length = n.toNat by omega)
      obtain ⟨W, hW⟩ : ∃ W : World, W = wr := ⟨_, rfl⟩
      subst hW
      have hcap := own_cap hown
      have ho := own_out hown
      by_cases hn0 : 0 < n
      · obtain ⟨d, rfl⟩ : ∃ d : Nat, n = (d : Int) + 1 := ⟨(n - 1).toNat, by omega⟩
        have hdl : d < zs.length := by omega
        have hld : zs.length ≤ d + 1 := by omega
        go_wp2_with fail
        refine (pick_any g _ _ _ hrdr (by omega) (by omega)).mono ?_
        rintro e w3 ⟨q, rfl, hq, hrd3, hg3⟩
        have hne : ∀ b o, (some (⟨h, 0, none⟩ : Addr)) = some ⟨b, o, none⟩ → b ≠ g := by
          intro b o e
          obtain ⟨b', o', e', h1, _⟩ := ho.open' (by omega) (by simp; omega)
          simp at e e'
          omega
        have ho3 := ho.grown (Nat.le_refl _) hg3 hne
        have hgr3 := grown_trans hgr hg3
        have hz3 := hg3.size
        clear hown hrdr
        by_cases hq0 : q = 0
        · subst hq0
          obtain ⟨b, o, e, hb1, hb2, hc, hf⟩ := ho3.open' (by omega) (by simp; omega)
          simp only [Option.some.injEq, Addr.mk.injEq, and_true] at e
          obtain ⟨rfl, rfl⟩ := e
          have hcl := ints_at hc hdl
          rw [Nat.zero_add] at hcl
          obtain ⟨x, hx⟩ : ∃ x, zs[d] = x := ⟨_, rfl⟩
          rw [hx] at hcl
          have HF := Lib.hid hf
          clear hx hc hf hq
          go_wp2_with fail
          refine (one_lit g _ w3 hrd3 (by omega) [-1, (d : Int) + 1, x] (by simp) (by simp) 3 rfl _ rfl).mono ?_
          rintro e w4 ⟨k', rfl, hk', hrd4, hg4⟩
          have ho4 := (ho3.more hz3).grown (Nat.le_refl _) hg4 hne
          obtain ⟨b', o', e, _, hb4, hc, hf⟩ := ho4.open' (by omega) (by simp; omega)
          simp only [Option.some.injEq, Addr.mk.injEq, and_true] at e
          obtain ⟨rfl, rfl⟩ := e
          have hc0 := hc 0 (.int .i64 zs[0]) (by simp [List.getElem?_map, List.getElem?_eq_getElem (show 0 < zs.length by omega)])
          have hf0 := hf 0
          rw [Nat.add_zero] at hc0
          have h0 : (0 : Int) < (zs.length : Int) := by omega
          clear hc hf hcl hk'
          go_wp2
          go_ret
          have hz4 := hg4.size
          have hfin := ho4.set 0 (.int .i64 k')
          refine ⟨some ⟨h, 0, none⟩, c, zs.set 0 k', by rw [List.length_set]; rfl, by rw [List.length_set]; exact HN.out, by rw [List.length_set]; exact hcap, ?_, ⟨_, ?_, (hrd4.own (row := some h) ⟨rfl, rfl, rfl, by simp [World.setCell], fun i hi hne => Below.heap_setCell _ _ _ _ (fun e => hne (by rw [e]))⟩ (fun i hi => by injection hi with hi; omega))⟩, ?_⟩
          · show Own _ (w.heap.size + 1) _ _ ((zs.set 0 k').map (Value.int .i64))
            rw [List.map_set]
            exact hfin.more (by simp [World.setCell]; omega)
          · have := HN.out; omega
          · refine grown_own (grown_trans hgr3 hg4) (row := some h) ⟨rfl, rfl, rfl, by simp [World.setCell], fun i hi hne => Below.heap_setCell _ _ _ _ (fun e => hne (by rw [e]))⟩ (fun i hi => ?_)
            injection hi with hi
            omega
        · have hqq : (q == 0) = false := beq_eq_false_iff_ne.2 hq0
          clear hq0 hq
          go_wp2
          go_ret
          exact ⟨some ⟨h, 0, none⟩, c, zs, rfl, HN.out, hcap, ho3.more hz3, ⟨_, by have := HN.out; omega, hrd3⟩, hgr3⟩
      · go_wp2
        go_ret
        exact ⟨some ⟨h, 0, none⟩, c, zs, rfl, HN.out, hcap, ho, ⟨_, by have := HN.out; omega, hrdr⟩, hgr⟩

set_option maxRecDepth 100000 in
theorem someRow_any (g p : Nat) (w : World) (hrd : Rd w g p) (hp : p ≤ 1000) :
    Calls Try.prog 38 #[.pointer (some ⟨g, 0, none⟩)] w fun e w' => ∃ (A : Option Addr) (c : Nat) (zs : List Int),
      e = .returned (.slice A zs.length c) ∧ zs.length ≤ 10 ∧ zs.length ≤ c ∧ OwnInts w' w.heap.size w'.heap.size A zs ∧ (∃ q, q ≤ p + 13 ∧ Rd w' g q) ∧ w.grownBy w' (some g) := by
  go_enter Try.func38, Try.ntmps38
  go_wp2_with fail
  refine (one_lit g p w hrd (by omega) [6, 5, 7, 8, 4, 9, 3, 2, 1, 0, 10] (by decide) (by decide) 11 rfl _ rfl).mono ?_
  rintro e w1 ⟨k, rfl, hk, hrd1, hg1⟩
  have hk' : 0 ≤ k ∧ k ≤ 10 := by simp at hk; omega
  clear hk
  go_wp2_with fail
  refine (rowOf_any g _ k _ hrd1 (by omega) (by omega)).mono ?_
  rintro e w2 ⟨A, c, zs, rfl, hl, hc, ho, ⟨q, hq, hrd2⟩, hg2⟩
  have HL := Lib.hid hl
  clear hl
  go_wp2_with fail
  go_ret
  exact ⟨A, c, zs, rfl, by have := HL.out; omega, hc, ho.less (by have := hg1.size; omega), ⟨q, by omega, hrd2⟩, grown_trans hg1 hg2⟩
end Go.Proofs.Ytdgdlmpmoafkgaa
