/- The walk of the law FnSortPasses. No condition. -/
import Derived.Test.YtdacjoeabndcjabSr
import Derived.Test.YtdacjoeabndcjabSu
import Derived.Test.YtdacjoeabndcjabS10
import Derived.Test.YtdacjoeabndcjabEqR
import Derived.Test.YtdacjoeabndcjabSt0
import Derived.Deep.RegionHeld3
namespace Go.Proofs.Ytdacjoeabndcjab
open Go.RowKit

set_option maxRecDepth 100000 in
theorem drawSortPasses_any (A : Option Addr) (c : Nat) (zs : List Int) (w : World) (hr : Own w 0 w.heap.size A (zs.map (Value.int .u8))) (hx : zs.length ≤ c ∧ c ≤ maxLen ∧ ∀ z ∈ zs, (Lit.int .u8 z).wf = true) :
    Calls Try.prog 36 #[.slice A zs.length c] w fun e w' => ∃ (A : Option Addr) (c : Nat) (ds : List Int) (k : Int), e = .returned (.tuple #[.slice A ds.length c, .int .i64 k]) ∧ ds.length ≤ 10 ∧ ds.length ≤ c ∧ 1 ≤ k ∧ k ≤ 5 ∧ Own w' 0 w'.heap.size A (ds.map (Value.int .i64)) ∧ Below w.heap.size w w' := by
  have H := Lib.hid hx
  clear hx
  go_enter Try.func36, Try.ntmps36
  go_wp2_with fail
  refine (newReader_any _ _ _ _ hr H.out).mono ?_
  rintro e w1 ⟨rfl, hrd, hb1⟩
  go_wp2_with fail
  refine (someRow_any _ 0 _ hrd (by omega)).mono ?_
  rintro e w2 ⟨A2, c2, ds, rfl, h10, hc2, ho2, ⟨q2, hq2, hrd2⟩, hg2⟩
  have hgl := hrd.lt
  go_wp2_with fail
  refine (one_lit _ q2 w2 hrd2 (by omega) [2, 3, 4, 2, 1, 5] (by decide) (by decide) 6 rfl _ rfl).mono ?_
  rintro e w3 ⟨k, rfl, hk, hrd3, hg3⟩
  have hz2 := hg2.size
  have hz3 := hg3.size
  have ho3 : Own w3 0 w2.heap.size A2 (ds.map (Value.int .i64)) := (ho2.apart (Nat.le_refl _) hg3 (fun i hi => by injection hi with hi; omega)).row
  have hk' : 1 ≤ k ∧ k ≤ 5 := by simp at hk; omega
  clear hk
  go_wp2_with fail
  go_ret2
  exact ⟨A2, c2, ds, k, rfl, h10, hc2, hk'.1, hk'.2, ho3.more hz3, hb1.grown (grown_trans hg2 hg3) hb1.size (fun k hk => by injection hk with hk; omega)⟩

theorem sortV_some {zs : List Int} {k : Int} (h : sortV zs k ≠ []) : rowB 9 zs = true ∧ (2 ≤ k ∧ k ≤ 4) ∧ sortV zs k = sortR zs k.toNat (passN (runsNat zs) k.toNat) ∧ fewN zs k = (passN (runsNat zs) k.toNat : Int) := by
  unfold sortV at h ⊢
  by_cases hc : (rowB 9 zs && inR k 2 4) = true
  · rw [if_pos hc]
    simp only [Bool.and_eq_true] at hc
    exact ⟨hc.1, by simpa [inR] using hc.2, rfl, by simp [fewN, hc.1, hc.2]⟩
  · rw [if_neg hc] at h; exact absurd rfl h
theorem sortR_first (zs : List Int) (k m : Nat) : (sortR zs k m)[0]'(by rw [sortR_len]; omega) = zs := by
  induction m with
  | zero => rfl
  | succ m ih => simp only [sortR]; rw [List.getElem_append_left (by rw [sortR_len]; omega)]; exact ih
theorem sortR_last (zs : List Int) (k m : Nat) : (sortR zs k m)[m]'(by rw [sortR_len]; omega) = nowP zs k m := by
  cases m with
  | zero => rfl
  | succ m => simp only [sortR]; rw [List.getElem_append_right (by rw [sortR_len]; omega)]; simp [sortR_len]

theorem cell_keep {w w' : World} (q : Below w.heap.size w w') {b off : Nat} {v : Value} (hb : b < w.heap.size) (h : w.cell? ⟨b, off, none⟩ = some v) : w'.cell? ⟨b, off, none⟩ = some v := by
  rw [q.cell (p := ⟨b, off, none⟩) hb]; exact h
theorem HEm {n : Nat} (R A : Option Addr) (cR cA : Nat) (w : World) (h1 : Ints w w.heap.size R (tab n fun j => (j : Int))) (h2 : Ints w w.heap.size A (tab n fun j => (j : Int))) (hn : n ≤ 1000) :
    Calls Try.prog 30 #[.slice R n cR, .slice A n cA] w fun e w' => e = .returned (.bool true) ∧ ∃ k, w' = w.drewN k := by
  have h := equalInts_any R A cR cA (tab n fun j => (j : Int)) (tab n fun j => (j : Int)) w h1 h2 (by rw [tab_length]; omega)
  rw [tab_length, eqI_refl'] at h
  exact h

set_option maxRecDepth 100000 in
set_option maxHeartbeats 4000000 in
theorem sortPasses_law (A : Option Addr) (c : Nat) (zs : List Int) (w : World) (hr : Own w 0 w.heap.size A (zs.map (Value.int .u8))) (hx : zs.length ≤ c ∧ c ≤ maxLen ∧ ∀ z ∈ zs, (Lit.int .u8 z).wf = true) :
    Calls Try.prog 10 #[.slice A zs.length c] w fun e w' => e = .returned (.bool true) ∧ Below w.heap.size w w' := by
  have hl : zs.length ≤ 9223372036854775807 := by have := hx.1; have := hx.2.1; unfold maxLen at this; omega
  have HX := Lib.hid hx
  clear hx
  by_cases h20 : zs.length ≤ 1048576
  · go_enter Try.func10, Try.ntmps10
    go_wp2_with fail
    refine (drawSortPasses_any _ _ _ _ hr HX.out).mono ?_
    rintro e w1 ⟨A1, c1, ds, k, rfl, h10, hdc, hk1, hk5, ho, b1⟩
    have hbd := sortV_bd ds k
    obtain ⟨V, hV⟩ : ∃ V, sortV ds k = V := ⟨_, rfl⟩
    rw [hV] at hbd
    have HV := Lib.hid hV
    have hVl := hbd.1
    have hrl : ∀ (i : Nat) (hi : i < V.length), V[i].length ≤ 1000000000 := fun i hi => by have := hbd.2 _ (List.getElem_mem hi); omega
    have HRL := Lib.hid hrl
    have HE := Lib.hid (eqG_self V)
    have z1 := b1.size
    clear hV hbd hrl
    go_wp2_with fail
    refine (impSort_any _ _ _ _ _ ho hdc).mono ?_
    rw [HV.out]
    rintro e w2 ⟨A2, c2, rfl, hc2, g2, b2⟩
    have z2 := b2.size
    have o2 := ho.past b2
    have p2 := b1.trans (b2.mono z1)
    go_wp2_with fail
    refine (specSort_any _ _ _ _ _ o2 (by omega)).mono ?_
    rw [HV.out]
    rintro e w3 ⟨A3, c3, rfl, hc3, g3, b3⟩
    have z3 := b3.size
    have g23 := g2.keep (Nat.le_refl _) b3
    have o3 := o2.past b3
    have p3 := p2.trans (b3.mono (by omega))
    go_wp2_with fail
    refine (equalRows_any _ _ _ _ _ _ _ (g23.row.more (by omega)) (g3.row.more (by omega)) (by omega) HRL.out).mono ?_
    rw [HE.out]
    rintro e w4 ⟨rfl, n4, hw4⟩
    have b4 : Below w3.heap.size w3 w4 := by rw [hw4]; exact below_drewN (Below.refl _ _) n4
    clear hw4
    have z4 := b4.size
    have g24 := g23.keep (by omega) b4
    have o4 := o3.past b4
    have p4 := p3.trans (b4.mono (by omega))
    by_cases hne : V = []
    · have ht : ((V.length : Int) == 0) = true := by rw [hne]; rfl
      clear hne
      go_wp2_with fail
      refine (specSort_any _ _ _ _ _ o4 (by omega)).mono ?_
      rw [HV.out]
      rintro e w5 ⟨A5, c5, rfl, hc5, g5, b5⟩
      have z5 := b5.size
      have g25 := g24.keep (by omega) b5
      have p5 := p4.trans (b5.mono (by omega))
      go_wp2_with fail
      refine (equalRows_any _ _ _ _ _ _ _ (g25.row.more (by omega)) (g5.row.more (by omega)) (by omega) HRL.out).mono ?_
      rw [HE.out]
      rintro e w6 ⟨rfl, n6, rfl⟩
      go_wp2_with fail
      go_ret
      exact ⟨rfl, below_drewN p5 n6⟩
    · have hpos := List.length_pos_iff.2 hne
      have ht : ((V.length : Int) == 0) = false := beq_eq_false_iff_ne.2 (by omega)
      obtain ⟨hv, hkb, hVR, hfew⟩ := sortV_some (show sortV ds k ≠ [] by rw [HV.out]; exact hne)
      obtain ⟨kk, rfl⟩ := Int.eq_ofNat_of_zero_le (show 0 ≤ k by omega)
      simp only [Int.toNat_natCast] at hVR hfew
      have hsorts := sorts (zs := ds) (k := kk) (by omega) (by omega) hv
      rw [HV.out] at hVR
      obtain ⟨m, hm⟩ : ∃ m, passN (runsNat ds) kk = m := ⟨_, rfl⟩
      rw [hm] at hVR hfew hsorts
      have hlen : V.length = m + 1 := by rw [hVR, sortR_len]
      have hf : V[0]'hpos = ds := by simp only [hVR]; exact sortR_first ds kk m
      have hla : V[m]'(by omega) = tab ds.length (fun j => (j : Int)) := by simp only [hVR]; rw [sortR_last]; exact hsorts
      obtain ⟨b, o, R0, cR0, rfl, hbl, hcell0, hcR0, hrow0⟩ := g24.row.open hpos
      obtain ⟨b', o', Rm, cRm, e', hbl', hcellm, hcRm, hrowm⟩ := g24.row.open (show m < V.length by omega)
      simp only [Option.some.injEq, Addr.mk.injEq, and_true] at e'
      obtain ⟨rfl, rfl⟩ := e'
      rw [hf] at hcell0 hrow0
      rw [hla, tab_length] at hcellm
      rw [hla] at hrowm
      rw [Nat.add_zero] at hcell0
      have HF := Lib.hid hfew
      have hm1 : (((m : Int) + 1) == (m : Int) + 1) = true := beq_iff_eq.2 rfl
      rw [hlen]
      have ht' : ((((m + 1 : Nat)) : Int) == 0) = false := beq_eq_false_iff_ne.2 (by omega)
      have hm4 : m ≤ 4 := by omega
      have HH := Lib.hid (And.intro hrow0 hrowm)
      have HE0 := Lib.hid (eqI_refl' ds)
      have hfp := fun W h => impFewest_any A1 c1 ds (kk : Int) W h hdc
      rw [hfew] at hfp
      have HFP := Lib.hid hfp
      clear ht hne hv hkb hVR hfew hsorts hm hlen hf hcR0 hcRm hla hrow0 hrowm hfp g24 g23 g2 g3 o2 o3 b1 b2 b3 b4 p2 p3
      have H1 := Lib.hid hcell0
      have H2 := Lib.hid hcellm
      have HO4 := Lib.hid o4
      have hb4 : b < w4.heap.size := by omega
      have q4 : Below w4.heap.size w4 w4.drew := ⟨rfl, rfl, rfl, Nat.le_refl _, fun _ _ => rfl⟩
      clear o4
      go_wp2
      have h24 : w2.heap.size ≤ w4.heap.size := by omega
      have hm0 : (0 : Int) ≤ (m : Int) := by omega
      have hm01 : (m : Int) < (m : Int) + 1 := by omega
      have hd9 : ds.length ≤ 9000000000000000000 := by omega
      have hd10 : ds.length ≤ 1000 := by omega
      have e1 : IntKind.i64.wrap ((m : Int) + 1) = (m : Int) + 1 := IntWalk.i64_in _ (by omega)
      have e2 : IntKind.i64.wrap (((m : Int) + 1) - 1) = (m : Int) := by rw [Int.add_sub_cancel]; exact IntWalk.i64_in _ (by omega)
      have e3 : IntKind.i64.wrap (m : Int) = (m : Int) := IntWalk.i64_in _ (by omega)
      go_region_held3 (fun w' => w'.cell? ⟨b, o, none⟩ = some (.slice R0 ds.length cR0) ∧ w'.cell? ⟨b, o + m, none⟩ = some (.slice Rm ds.length cRm))
        (first | exact ⟨cell_keep q8 hb4 H1.out, cell_keep q8 hb4 H2.out⟩ | exact ⟨cell_keep q7 hb4 H1.out, cell_keep q7 hb4 H2.out⟩ | exact ⟨cell_keep q6 hb4 H1.out, cell_keep q6 hb4 H2.out⟩ | exact ⟨cell_keep q5 hb4 H1.out, cell_keep q5 hb4 H2.out⟩ | exact ⟨cell_keep q4 hb4 H1.out, cell_keep q4 hb4 H2.out⟩)
        ((first
          | (go_at_call 27; (with_reducible refine (HFP.out _ (HO4.out.past q4)).mono ?_); rintro e w5 ⟨rfl, b5⟩; have q5 : Below w4.heap.size w4 w5 := q4.trans b5)
          | (go_at_call 30; (with_reducible refine (equalInts_any R0 A1 cR0 c1 ds ds w5 ((HH.out.1.below (q5.mono h24)).more (Nat.le_trans h24 q5.size)) (HO4.out.past q5) hd9).mono ?_); rw [HE0.out]; rintro e w6 ⟨rfl, n6, hw6⟩; have q6 : Below w4.heap.size w4 w6 := (by rw [hw6]; exact below_drewN q5 n6); clear hw6)
          | (go_at_call 20; (with_reducible refine (inOrder_any ds.length w6 hd10).mono ?_); rintro e w7 ⟨A7, c7, rfl, hc7, o7, b7⟩; have q7 : Below w4.heap.size w4 w7 := q6.trans (b7.mono q6.size))
          | (go_at_call 30; (with_reducible refine (HEm _ A7 _ c7 w7 ((HH.out.2.below (q7.mono h24)).more (Nat.le_trans h24 q7.size)) o7.row hd10).mono ?_); rintro e w8 ⟨rfl, n8, hw8⟩; have q8 : Below w4.heap.size w4 w8 := (by rw [hw8]; exact below_drewN q7 n8); clear hw8)
          | fail))
      clear e1 e2 e3 hm01 hm0
      go_simp
      go_wp2
      go_ret
      exact ⟨rfl, p4.trans (q8.mono (by omega))⟩
  · go_enter Try.func10, Try.ntmps10
    go_wp2
    go_ret
    exact ⟨rfl, Below.refl _ _⟩
end Go.Proofs.Ytdacjoeabndcjab
