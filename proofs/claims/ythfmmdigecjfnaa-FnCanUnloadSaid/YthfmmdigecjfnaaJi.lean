/- What FnCanUnload draws, and its walk. No condition. -/
import Derived.Test.YthfmmdigecjfnaaJ6
namespace Go.Proofs.Ythfmmdigecjfnaa
open Go.RowKit

set_option maxRecDepth 100000 in
set_option maxHeartbeats 1000000 in
theorem listOf_cap (g p : Nat) (n low high : Int) (w : World) (hrd : Rd w g p) (hp : p ≤ 100000) (hn : n ≤ 10000) (h1 : -100000 ≤ low) (h2 : low ≤ high) (h3 : high ≤ 100000) :
    Calls Try.prog 59 #[.pointer (some ⟨g, 0, none⟩), .int .i64 n, .int .i64 low, .int .i64 high] w fun e w' => ∃ (A : Option Addr) (c : Nat) (zs : List Int),
      e = .returned (.slice A zs.length c) ∧ zs.length ≤ c ∧ zs.length = n.toNat ∧ (∀ z ∈ zs, low ≤ z ∧ z ≤ high) ∧ OwnInts w' w.heap.size w'.heap.size A zs ∧ Rd w' g (p + n.toNat) ∧ w.grownBy w' (some g) := by
  obtain ⟨i0, hi0, hz0, hz1, hz2⟩ := info_parts Try.info3
  have hgl := hrd.lt
  have hstart : (w.alloc (.cells #[] 3)).ownsRow w.heap.size 3 1 (.slice (some ⟨w.heap.size, 0, none⟩) 0 0) 0 [] := World.ownsRow_lit w #[] 0 (Nat.le_refl _) (by simp [maxLen]) rfl
  have hga : w.grownBy (w.alloc (.cells #[] 3)) (some g) := World.grownBy_alloc w _ _
  have hrda : Rd (w.alloc (.cells #[] 3)) g p := hrd.own (World.grownBy_alloc w _ none) (by simp)
  go_enter Try.func59, Try.ntmps59
  go_wp2
  go_loopw [9] (fun v wr => ∃ (A : Option Addr) (c : Nat) (zs : List Int), v = .slice A zs.length c ∧ zs.length ≤ n.toNat ∧ (∀ z ∈ zs, low ≤ z ∧ z ≤ high) ∧
      wr.ownsRow w.heap.size 3 1 (.slice A zs.length c) zs.length (zs.map (Value.int .i64)) ∧ Rd wr g (p + zs.length) ∧ w.grownBy wr (some g))
    (fun v _ => n.toNat - (match v with | .slice _ m _ => m | _ => 0))
  case atStart => exact ⟨_, _, [], rfl, by simp, by simp, hstart, hrda, hga⟩
  case round =>
    obtain ⟨A, c, zs, rfl, hk, hall, hown, hrdr, hgr⟩ := hrel
    clear hstart hga hrda
    have HA := Lib.hid hall; clear hall
    by_cases hlt : (zs.length : Int) < n
    · go_wp2_with fail
      refine (pick_any g _ _ _ hrdr (by omega) (by omega)).mono ?_
      rintro e w1 ⟨k, rfl, hkb, hrd1, hg1⟩
      have hk0 := hkb.1
      have hk1 := hkb.2 (by omega)
      have hown1 := hown.kept hg1 (own_ne hown hgl)
      have hgr1 := grown_trans hgr hg1
      clear hown hgr hg1 hrdr
      go_wp2_with (at_builtin; refine wpList_push rfl (.tmp 15) (.tmp 24) 22 rfl i0 (.int .i64 0) 8 Try.underlying22 hi0 hz0 hz1 hz2 rfl (by decide) _ _ rfl hown1 [.int .i64 (low + k)] rfl rfl (by simp [Value.oneCell']) (by omega) (by omega) hgr1.size ?_)
      intro A' c' w2 hown2 hg2
      have hrd2 := hrd1.own hg2 (fun i hi => by have := (hown1.lt _ hi).1; omega)
      have hgr2 := grown_own hgr1 hg2 (fun i hi => (hown1.lt _ hi).1)
      clear hown1 hgr1 hg2 hrd1
      go_wp2
      go_roundw
      case rel =>
        refine ⟨A', c', zs ++ [low + k], by simp, by simp; omega, fun z hz => ?_, by simpa using hown2, ?_, hgr2⟩
        · rcases List.mem_append.1 hz with hz | hz
          · exact HA.out z hz
          · simp at hz; omega
        · rw [List.length_append]; exact hrd2
      case measure => simp; omega
    · go_wp2
      go_ret
      have hn' : zs.length = n.toNat := by omega
      have hcap := own_cap hown
      obtain ⟨A1, c1, hv, _, ho⟩ := own_of_row hown
      simp only [Value.slice.injEq] at hv
      obtain ⟨rfl, _, rfl⟩ := hv
      exact ⟨A, c, zs, rfl, hcap, hn', HA.out, ho, by rw [← hn']; exact hrdr, hgr⟩


set_option maxRecDepth 100000 in
set_option maxHeartbeats 4000000 in
theorem drawCanUnload_any (A : Option Addr) (c : Nat) (zs : List Int) (w : World) (hr : Own w 0 w.heap.size A (zs.map (Value.int .u8))) (hx : zs.length ≤ c ∧ c ≤ maxLen ∧ ∀ z ∈ zs, (Lit.int .u8 z).wf = true) :
    Calls Try.prog 39 #[.slice A zs.length c] w fun e w' => ∃ (A B : Option Addr) (c d : Nat) (ds ss : List Int), e = .returned (.tuple #[.slice A ds.length c, .slice B ss.length d]) ∧ ds.length ≤ 10 ∧ ds.length ≤ c ∧ ss.length ≤ 10 ∧ ss.length ≤ d ∧
      Own w' 0 w'.heap.size A (ds.map (Value.int .i64)) ∧ Own w' 0 w'.heap.size B (ss.map (Value.int .i64)) ∧ Below w.heap.size w w' := by
  have H := Lib.hid hx
  clear hx
  go_enter Try.func39, Try.ntmps39
  go_wp2_with fail
  refine (newReader_any _ _ _ _ hr H.out).mono ?_
  rintro e w1 ⟨rfl, hrd, hb1⟩
  have hg0 : w.heap.size < w1.heap.size := hrd.lt
  go_wp2_with fail
  refine (someRow_any _ 0 _ hrd (by omega)).mono ?_
  rintro e w2 ⟨A2, c2, ds, rfl, h10, hc2, ho2, ⟨q2, hq2, hrd2⟩, hg2⟩
  go_wp2_with fail
  refine (one_lit _ q2 w2 hrd2 (by omega) [2, 4, 8] (by decide) (by decide) 3 rfl _ rfl).mono ?_
  rintro e w3 ⟨k, rfl, hk, hrd3, hg3⟩
  have hz1 := hb1.size
  have hz2 := hg2.size
  have hz3 := hg3.size
  have hne2 : ∀ b o, A2 = some ⟨b, o, none⟩ → ds ≠ [] → b ≠ w.heap.size := by
    rintro b o rfl hne
    obtain ⟨b', o', e, h1, _⟩ := ho2.open' (by omega) (by simp; exact List.length_pos_iff.2 hne)
    have := hrd.lt
    simp at e
    omega
  have ho3 : Own w3 0 w2.heap.size A2 (ds.map (Value.int .i64)) := by
    by_cases hd : ds = []
    · subst hd; exact .inl rfl
    · exact (ho2.row.grown (Nat.le_refl _) hg3 (fun b o e => hne2 b o e hd))
  have hk' : 0 ≤ k ∧ k ≤ 8 := by simp at hk; omega
  have hg13 := grown_trans hg2 hg3
  obtain ⟨hk0, hk5⟩ := hk'
  have HNE := Lib.hid hne2
  have HO3 := Lib.hid ho3
  clear hne2 ho3 ho2 hk
  go_wp2_with fail
  refine (listOf_cap _ _ (ds.length : Int) 0 _ _ hrd3 (by omega) (by omega) (by omega) (by omega) (by omega)).mono ?_
  rintro e w4 ⟨B, d, ss, rfl, hcd, hbl, hball, hob, hrd4, hg4⟩
  have hb10 : ss.length ≤ 10 := by omega
  clear hbl hball
  have hz4 := hg4.size
  have hg14 := grown_trans hg13 hg4
  have ho4 : Own w4 0 w2.heap.size A2 (ds.map (Value.int .i64)) := by
    by_cases hd : ds = []
    · subst hd; exact .inl rfl
    · exact HO3.out.grown hz3 hg4 (fun b o e => HNE.out b o e hd)
  clear hrd3 hg13 hg3
  go_wp2_with fail
  refine (pick_any _ _ _ _ hrd4 (by omega) (by omega)).mono ?_
  rintro e w5 ⟨t, rfl, ht, hrd5, hg5⟩
  have hz5 := hg5.size
  have hgl := hrd4.lt
  have hg15 := grown_trans hg14 hg5
  have ho5 : Own w5 0 w2.heap.size A2 (ds.map (Value.int .i64)) := by
    by_cases hd : ds = []
    · subst hd; exact .inl rfl
    · exact ho4.grown (by omega) hg5 (fun b o e => HNE.out b o e hd)
  have hob5 : Own w5 (w3.heap.size + 1) w5.heap.size B (ss.map (Value.int .i64)) := by
    by_cases hd : ss = []
    · subst hd; exact .inl rfl
    · exact (hob.grown (Nat.le_refl _) hg5 (fun b o e => by
        obtain ⟨b', o', e', h1, _⟩ := hob.open' (by omega) (by simp; exact List.length_pos_iff.2 hd)
        have := hrd.lt
        rw [e] at e'
        simp at e'
        omega)).more hz5
  clear hrd4 hg4 hg14 hg5 ho4 hob ht
  by_cases ht0 : t = 0
  · subst ht0
    have hva := specValidRow9_any A2 c2 ds w5 (ho5.more (by omega)) (by omega)
    by_cases hv : rowB 9 ds = true
    · rw [hv] at hva
      have HVA := Lib.hid hva
      have HSB := Lib.hid (specStacksBy_any A2 c2 ds w5 (ho5.more (by omega)) hv)
      have hl9 := rowB_len hv
      clear hva hv hob5 hcd hb10
      go_wp2_with (go_at_call 41; refine HVA.out.mono ?_; rintro e w' ⟨rfl, rfl⟩)
      refine HSB.out.mono ?_
      rintro e w6 ⟨B, d, rfl, hcd, hob6, hb6⟩
      obtain ⟨ss, hss⟩ : ∃ ss, stacksL ds = ss := ⟨_, rfl⟩
      have hb10 : ss.length ≤ 10 := by rw [← hss, stacksL_len]; omega
      rw [hss] at hcd hob6 ⊢
      have hz6 := hb6.size
      have hgr := grown_trans hg15 (show w5.grownBy w6 (some w.heap.size) from ⟨hb6.os, hb6.tape, hb6.output, hb6.size, fun i hi _ => hb6.block i hi⟩)
      have hoL : Own w6 0 w2.heap.size A2 (ds.map (Value.int .i64)) := ho5.below (hb6.mono (by omega))
      have hob : Own w6 (w3.heap.size + 1) w6.heap.size B (ss.map (Value.int .i64)) := Own.less hob6 (by omega)
      have hrdL : Rd w6 w.heap.size _ := hrd5.own (row := none) ⟨hb6.os, hb6.tape, hb6.output, hb6.size, fun i hi _ => hb6.block i hi⟩ (by simp)
      clear hg15 ho5 hob6 hrd5 hb6 hss
      by_cases h0 : ss.length = 0
      · have hd1 : decide (0 < ss.length) = false := decide_eq_false (by omega)
        have hl0 : ¬ (0 : Int) < ss.length := by omega
        clear h0
        go_wp2_with fail
        go_ret2
        exact ⟨A2, B, c2, d, ds, ss, rfl, h10, hc2, hb10, hcd, hoL.more (by omega), hob.less (by omega), hb1.grown hgr hb1.size (fun k hk => by injection hk with hk; omega)⟩
      · have hpos : 0 < ss.length := by omega
        have hl0 : (0 : Int) < ss.length := by omega
        have hd1 : decide (0 < ss.length) = true := decide_eq_true (by omega)
        clear h0
        have hob' := hob
        obtain ⟨b, o, rfl, hbb, hblt, hc, hf⟩ := hob'.open' (by omega) (by simp; omega)
        clear hob' hc hf
        go_wp2_with fail
        refine (pick_any _ _ _ _ hrdL (by omega) (by omega)).mono ?_
        rintro e w7 ⟨q, rfl, hq, hrd7, hg7⟩
        have hz7 := hg7.size
        have hbg : b ≠ w.heap.size := by have := hrd.lt; have := hg2.size; omega
        have ho7 : Own w7 0 w2.heap.size A2 (ds.map (Value.int .i64)) := by
          by_cases hd : ds = []
          · subst hd; exact .inl rfl
          · exact hoL.grown (by omega) hg7 (fun b o e => HNE.out b o e hd)
        have hob7 := hob.grown (Nat.le_refl _) hg7 (fun b' o' e => by simp at e; omega)
        have hg17 := grown_trans hgr hg7
        clear hq
        by_cases hq0 : q = 0
        · subst hq0
          obtain ⟨b', o', e, _, hb7, hc, hf⟩ := hob7.open' (by omega) (by simp; omega)
          simp only [Option.some.injEq, Addr.mk.injEq, and_true] at e
          obtain ⟨rfl, rfl⟩ := e
          clear hc hf
          go_wp2_with fail
          refine (one_lit _ _ w7 hrd7 (by omega) [-1, 9, 0] (by simp) (by simp) 3 rfl _ rfl).mono ?_
          rintro e w8 ⟨k, rfl, hk, hrd8, hg8⟩
          have hz8 := hg8.size
          have ho8 : Own w8 0 w2.heap.size A2 (ds.map (Value.int .i64)) := by
            by_cases hd : ds = []
            · subst hd; exact .inl rfl
            · exact ho7.grown (by omega) hg8 (fun b o e => HNE.out b o e hd)
          have hob8 := (hob7.more hz7).grown (Nat.le_refl _) hg8 (fun b' o' e => by simp at e; omega)
          have hg18 := grown_trans hg17 hg8
          obtain ⟨b', o', e, _, hb8, hc, hf⟩ := hob8.open' (by omega) (by simp; omega)
          simp only [Option.some.injEq, Addr.mk.injEq, and_true] at e
          obtain ⟨rfl, rfl⟩ := e
          have hc0 := hc 0 (.int .i64 ss[0]) (by simp [List.getElem?_map, List.getElem?_eq_getElem hpos])
          have hf0 := hf o
          rw [Nat.add_zero] at hc0
          clear hc hf hk
          go_wp2_with fail
          go_ret2
          have hfin := hob8.set 0 (.int .i64 k)
          have ho9 : Own (w8.setCell ⟨b, o, none⟩ (.int .i64 k)) 0 w2.heap.size A2 (ds.map (Value.int .i64)) :=
            ho8.elder (row := some b) (by omega) (g_set (World.grownBy.refl w8 (some b)) o _) (fun i hi => by injection hi with hi; omega)
          refine ⟨A2, some ⟨b, o, none⟩, c2, d, ds, ss.set 0 k, by rw [List.length_set]; rfl, h10, hc2, by rw [List.length_set]; exact hb10, by rw [List.length_set]; exact hcd, ho9.more (by simp [World.setCell]; omega), ?_, ?_⟩
          · rw [List.map_set]
            exact (hfin.more (by simp [World.setCell]; omega)).less (by omega)
          · exact (hb1.grown hg18 hb1.size (fun k hk => by injection hk with hk; omega)).setCell (p := ⟨b, o, none⟩) (by simp; omega) _
        · have hqq : (q == 0) = false := beq_eq_false_iff_ne.2 hq0
          clear hq0
          go_wp2_with fail
          go_ret2
          exact ⟨A2, some ⟨b, o, none⟩, c2, d, ds, ss, rfl, h10, hc2, hb10, hcd, ho7.more (by omega), (hob7.more hz7).less (by omega), hb1.grown hg17 hb1.size (fun k hk => by injection hk with hk; omega)⟩
    · have hv' : rowB 9 ds = false := by simpa using hv
      rw [hv'] at hva
      have HVA := Lib.hid hva
      have hgr := hg15
      have hoL := ho5
      have hob := hob5
      have hrdL := hrd5
      clear hva hv hv' hg15 ho5 hob5 hrd5
      by_cases h0 : ss.length = 0
      · have hd1 : decide (0 < ss.length) = false := decide_eq_false (by omega)
        have hl0 : ¬ (0 : Int) < ss.length := by omega
        clear h0
        go_wp2_with (go_at_call 41; refine HVA.out.mono ?_; rintro e w' ⟨rfl, rfl⟩)
        go_ret2
        exact ⟨A2, B, c2, d, ds, ss, rfl, h10, hc2, hb10, hcd, hoL.more (by omega), hob.less (by omega), hb1.grown hgr hb1.size (fun k hk => by injection hk with hk; omega)⟩
      · have hpos : 0 < ss.length := by omega
        have hl0 : (0 : Int) < ss.length := by omega
        have hd1 : decide (0 < ss.length) = true := decide_eq_true (by omega)
        clear h0
        have hob' := hob
        obtain ⟨b, o, rfl, hbb, hblt, hc, hf⟩ := hob'.open' (by omega) (by simp; omega)
        clear hob' hc hf
        go_wp2_with (go_at_call 41; refine HVA.out.mono ?_; rintro e w' ⟨rfl, rfl⟩)
        refine (pick_any _ _ _ _ hrdL (by omega) (by omega)).mono ?_
        rintro e w7 ⟨q, rfl, hq, hrd7, hg7⟩
        have hz7 := hg7.size
        have hbg : b ≠ w.heap.size := by have := hrd.lt; have := hg2.size; omega
        have ho7 : Own w7 0 w2.heap.size A2 (ds.map (Value.int .i64)) := by
          by_cases hd : ds = []
          · subst hd; exact .inl rfl
          · exact hoL.grown (by omega) hg7 (fun b o e => HNE.out b o e hd)
        have hob7 := hob.grown (Nat.le_refl _) hg7 (fun b' o' e => by simp at e; omega)
        have hg17 := grown_trans hgr hg7
        clear hq
        by_cases hq0 : q = 0
        · subst hq0
          obtain ⟨b', o', e, _, hb7, hc, hf⟩ := hob7.open' (by omega) (by simp; omega)
          simp only [Option.some.injEq, Addr.mk.injEq, and_true] at e
          obtain ⟨rfl, rfl⟩ := e
          clear hc hf
          go_wp2_with fail
          refine (one_lit _ _ w7 hrd7 (by omega) [-1, 9, 0] (by simp) (by simp) 3 rfl _ rfl).mono ?_
          rintro e w8 ⟨k, rfl, hk, hrd8, hg8⟩
          have hz8 := hg8.size
          have ho8 : Own w8 0 w2.heap.size A2 (ds.map (Value.int .i64)) := by
            by_cases hd : ds = []
            · subst hd; exact .inl rfl
            · exact ho7.grown (by omega) hg8 (fun b o e => HNE.out b o e hd)
          have hob8 := (hob7.more hz7).grown (Nat.le_refl _) hg8 (fun b' o' e => by simp at e; omega)
          have hg18 := grown_trans hg17 hg8
          obtain ⟨b', o', e, _, hb8, hc, hf⟩ := hob8.open' (by omega) (by simp; omega)
          simp only [Option.some.injEq, Addr.mk.injEq, and_true] at e
          obtain ⟨rfl, rfl⟩ := e
          have hc0 := hc 0 (.int .i64 ss[0]) (by simp [List.getElem?_map, List.getElem?_eq_getElem hpos])
          have hf0 := hf o
          rw [Nat.add_zero] at hc0
          clear hc hf hk
          go_wp2_with fail
          go_ret2
          have hfin := hob8.set 0 (.int .i64 k)
          have ho9 : Own (w8.setCell ⟨b, o, none⟩ (.int .i64 k)) 0 w2.heap.size A2 (ds.map (Value.int .i64)) :=
            ho8.elder (row := some b) (by omega) (g_set (World.grownBy.refl w8 (some b)) o _) (fun i hi => by injection hi with hi; omega)
          refine ⟨A2, some ⟨b, o, none⟩, c2, d, ds, ss.set 0 k, by rw [List.length_set]; rfl, h10, hc2, by rw [List.length_set]; exact hb10, by rw [List.length_set]; exact hcd, ho9.more (by simp [World.setCell]; omega), ?_, ?_⟩
          · rw [List.map_set]
            exact (hfin.more (by simp [World.setCell]; omega)).less (by omega)
          · exact (hb1.grown hg18 hb1.size (fun k hk => by injection hk with hk; omega)).setCell (p := ⟨b, o, none⟩) (by simp; omega) _
        · have hqq : (q == 0) = false := beq_eq_false_iff_ne.2 hq0
          clear hq0
          go_wp2_with fail
          go_ret2
          exact ⟨A2, some ⟨b, o, none⟩, c2, d, ds, ss, rfl, h10, hc2, hb10, hcd, ho7.more (by omega), (hob7.more hz7).less (by omega), hb1.grown hg17 hb1.size (fun k hk => by injection hk with hk; omega)⟩
  · have htt : (t == 0) = false := beq_eq_false_iff_ne.2 ht0
    have hgr := hg15
    have hoL := ho5
    have hob := hob5
    have hrdL := hrd5
    clear ht0 hg15 ho5 hob5 hrd5
    by_cases h0 : ss.length = 0
    · have hd1 : decide (0 < ss.length) = false := decide_eq_false (by omega)
      have hl0 : ¬ (0 : Int) < ss.length := by omega
      clear h0
      go_wp2_with fail
      go_ret2
      exact ⟨A2, B, c2, d, ds, ss, rfl, h10, hc2, hb10, hcd, hoL.more (by omega), hob.less (by omega), hb1.grown hgr hb1.size (fun k hk => by injection hk with hk; omega)⟩
    · have hpos : 0 < ss.length := by omega
      have hl0 : (0 : Int) < ss.length := by omega
      have hd1 : decide (0 < ss.length) = true := decide_eq_true (by omega)
      clear h0
      have hob' := hob
      obtain ⟨b, o, rfl, hbb, hblt, hc, hf⟩ := hob'.open' (by omega) (by simp; omega)
      clear hob' hc hf
      go_wp2_with fail
      refine (pick_any _ _ _ _ hrdL (by omega) (by omega)).mono ?_
      rintro e w7 ⟨q, rfl, hq, hrd7, hg7⟩
      have hz7 := hg7.size
      have hbg : b ≠ w.heap.size := by have := hrd.lt; have := hg2.size; omega
      have ho7 : Own w7 0 w2.heap.size A2 (ds.map (Value.int .i64)) := by
        by_cases hd : ds = []
        · subst hd; exact .inl rfl
        · exact hoL.grown (by omega) hg7 (fun b o e => HNE.out b o e hd)
      have hob7 := hob.grown (Nat.le_refl _) hg7 (fun b' o' e => by simp at e; omega)
      have hg17 := grown_trans hgr hg7
      clear hq
      by_cases hq0 : q = 0
      · subst hq0
        obtain ⟨b', o', e, _, hb7, hc, hf⟩ := hob7.open' (by omega) (by simp; omega)
        simp only [Option.some.injEq, Addr.mk.injEq, and_true] at e
        obtain ⟨rfl, rfl⟩ := e
        clear hc hf
        go_wp2_with fail
        refine (one_lit _ _ w7 hrd7 (by omega) [-1, 9, 0] (by simp) (by simp) 3 rfl _ rfl).mono ?_
        rintro e w8 ⟨k, rfl, hk, hrd8, hg8⟩
        have hz8 := hg8.size
        have ho8 : Own w8 0 w2.heap.size A2 (ds.map (Value.int .i64)) := by
          by_cases hd : ds = []
          · subst hd; exact .inl rfl
          · exact ho7.grown (by omega) hg8 (fun b o e => HNE.out b o e hd)
        have hob8 := (hob7.more hz7).grown (Nat.le_refl _) hg8 (fun b' o' e => by simp at e; omega)
        have hg18 := grown_trans hg17 hg8
        obtain ⟨b', o', e, _, hb8, hc, hf⟩ := hob8.open' (by omega) (by simp; omega)
        simp only [Option.some.injEq, Addr.mk.injEq, and_true] at e
        obtain ⟨rfl, rfl⟩ := e
        have hc0 := hc 0 (.int .i64 ss[0]) (by simp [List.getElem?_map, List.getElem?_eq_getElem hpos])
        have hf0 := hf o
        rw [Nat.add_zero] at hc0
        clear hc hf hk
        go_wp2_with fail
        go_ret2
        have hfin := hob8.set 0 (.int .i64 k)
        have ho9 : Own (w8.setCell ⟨b, o, none⟩ (.int .i64 k)) 0 w2.heap.size A2 (ds.map (Value.int .i64)) :=
          ho8.elder (row := some b) (by omega) (g_set (World.grownBy.refl w8 (some b)) o _) (fun i hi => by injection hi with hi; omega)
        refine ⟨A2, some ⟨b, o, none⟩, c2, d, ds, ss.set 0 k, by rw [List.length_set]; rfl, h10, hc2, by rw [List.length_set]; exact hb10, by rw [List.length_set]; exact hcd, ho9.more (by simp [World.setCell]; omega), ?_, ?_⟩
        · rw [List.map_set]
          exact (hfin.more (by simp [World.setCell]; omega)).less (by omega)
        · exact (hb1.grown hg18 hb1.size (fun k hk => by injection hk with hk; omega)).setCell (p := ⟨b, o, none⟩) (by simp; omega) _
      · have hqq : (q == 0) = false := beq_eq_false_iff_ne.2 hq0
        clear hq0
        go_wp2_with fail
        go_ret2
        exact ⟨A2, some ⟨b, o, none⟩, c2, d, ds, ss, rfl, h10, hc2, hb10, hcd, ho7.more (by omega), (hob7.more hz7).less (by omega), hb1.grown hg17 hb1.size (fun k hk => by injection hk with hk; omega)⟩

set_option maxRecDepth 100000 in
set_option maxHeartbeats 1000000 in
theorem canUnload_law (A : Option Addr) (c : Nat) (zs : List Int) (w : World) (hr : Own w 0 w.heap.size A (zs.map (Value.int .u8))) (hx : zs.length ≤ c ∧ c ≤ maxLen ∧ ∀ z ∈ zs, (Lit.int .u8 z).wf = true) :
    Calls Try.prog 11 #[.slice A zs.length c] w fun e w' => e = .returned (.bool true) ∧ Below w.heap.size w w' := by
  have hl : zs.length ≤ 9223372036854775807 := by have := hx.1; have := hx.2.1; unfold maxLen at this; omega
  have HX := Lib.hid hx
  clear hx
  by_cases h20 : zs.length ≤ 1048576
  · go_enter Try.func11, Try.ntmps11
    go_wp2_with fail
    refine (drawCanUnload_any _ _ _ _ hr HX.out).mono ?_
    rintro e w1 ⟨A1, B1, c1, d1, ds, ss, rfl, h10, hdc, hs10, hsc, ho, hos, hb1⟩
    obtain ⟨q, hq⟩ : ∃ q, unlB ds ss = q := ⟨_, rfl⟩
    have HQ := Lib.hid hq
    clear hq
    go_wp2_with fail
    refine (impCanUnload_any _ _ _ _ _ _ _ ho hos hdc (by omega) (by omega)).mono ?_
    rw [HQ.out]
    rintro e w2 ⟨rfl, hb2⟩
    have ho2 := ho.past hb2
    have hos2 := hos.past hb2
    have hb12 := hb1.trans (hb2.mono hb1.size)
    clear ho hos hb1 hb2
    go_wp2_with fail
    refine (specCanUnload_any _ _ _ _ _ _ _ ho2 hos2 (by omega)).mono ?_
    rw [HQ.out]
    rintro e w3 ⟨rfl, hb3⟩
    have ho3 := ho2.past hb3
    have hos3 := hos2.past hb3
    have hb13 := hb12.trans (hb3.mono hb12.size)
    clear ho2 hos2 hb12 hb3
    cases q with
    | false =>
      go_wp2_with fail
      refine (specCanUnload_any _ _ _ _ _ _ _ ho3 hos3 (by omega)).mono ?_
      rw [HQ.out]
      rintro e w4 ⟨rfl, hb4⟩
      go_wp2_with fail
      go_ret
      exact ⟨rfl, hb13.trans (hb4.mono hb13.size)⟩
    | true =>
      have hun := HQ.out
      have hv : rowB 9 ds = true := by
        simp only [unlB, Bool.and_eq_true] at hun
        exact hun.1.1.1
      have hdf := diffC_unl hun
      have hrv := risV_yes hv
      have hut := unl_tab hv
      have hl9 := rowB_len hv
      have hll := lis_le_len ds
      have hdl := diffC_le ss
      obtain ⟨D, hD⟩ : ∃ D, diffC ss = D := ⟨_, rfl⟩
      obtain ⟨r, hre⟩ : ∃ r, risV ds = r := ⟨_, rfl⟩
      rw [hD] at hdf hdl
      rw [hre] at hrv
      have hge : decide (r ≤ (D : Int)) = true := decide_eq_true (by omega)
      have HF := Lib.hid (And.intro hD (And.intro hre hut))
      have hd9 : ds.length ≤ 1000 := by omega
      clear hun hv hdf hrv hut hll hdl hD hre
      go_wp2_with fail
      refine (different2_any _ _ _ _ hos3 hsc (by omega)).mono ?_
      rw [HF.out.1]
      rintro e w4 ⟨rfl, n4, hw4⟩
      have hb4 : Below w3.heap.size w3 w4 := by rw [hw4]; exact below_drewN (Below.refl _ _) n4
      have ho4 := ho3.past hb4
      have hb14 := hb13.trans (hb4.mono hb13.size)
      clear ho3 hos3 hb13 hb4 hw4
      go_wp2_with fail
      refine (impRisingOf_any _ _ _ _ ho4 hdc).mono ?_
      rw [HF.out.2.1]
      rintro e w5 ⟨rfl, hb5⟩
      have ho5 := ho4.past hb5
      have hb15 := hb14.trans (hb5.mono hb14.size)
      clear ho4 hb14 hb5
      go_wp2_with fail
      refine (inOrder_any ds.length _ hd9).mono ?_
      rintro e w6 ⟨A6, c6, rfl, hc6, ho6, hb6⟩
      have ho6' := ho5.past hb6
      have hb16 := hb15.trans (hb6.mono hb15.size)
      have hi6 := impCanUnload_any A1 A6 c1 c6 ds (tab ds.length fun j => (j : Int)) w6 ho6' ho6.row hdc (by omega) (by rw [tab_length]; omega)
      rw [tab_length, HF.out.2.2] at hi6
      have HI6 := Lib.hid hi6
      clear hi6 ho6 ho5 hb15 hb6 ho6'
      go_wp2_with fail
      refine HI6.out.mono ?_
      rintro e w7 ⟨rfl, hb7⟩
      go_wp2_with fail
      go_ret
      exact ⟨rfl, hb16.trans (hb7.mono hb16.size)⟩
  · go_enter Try.func11, Try.ntmps11
    go_wp2
    go_ret
    exact ⟨rfl, Below.refl _ _⟩
end Go.Proofs.Ythfmmdigecjfnaa
