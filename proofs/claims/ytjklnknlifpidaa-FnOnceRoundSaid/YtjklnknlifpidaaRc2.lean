/- spec.pairUp. No condition. -/
import Derived.Test.YtjklnknlifpidaaRc0
import Derived.Test.YtjklnknlifpidaaU3
import Derived.Test.YtjklnknlifpidaaU9
import Derived.Test.YtjklnknlifpidaaS9
import Derived.Deep.RegionHeld3
namespace Go.Proofs.Ytjklnknlifpidaa
open Go.RowKit

def intsR (l : List Nat) : List Int := l.map fun (x : Nat) => (x : Int)
theorem intsR_len (l : List Nat) : (intsR l).length = l.length := by simp [intsR]
theorem intsR_cells (l : List Nat) : ∀ u ∈ (intsR l).map (Value.int .i64), u.oneCell' = true := fun u hu => by
  obtain ⟨z, _, rfl⟩ := List.mem_map.1 hu; rfl
theorem intsR_at {l : List Nat} {j : Nat} (h : j < l.length) : ((intsR l).map (Value.int .i64))[j]? = some (.int .i64 (l[j] : Int)) := by
  unfold intsR; rw [List.getElem?_map, List.getElem?_map, List.getElem?_eq_getElem h]; rfl
theorem slice_midP (b o n c k : Nat) (h1 : 1 ≤ k) (hk : k ≤ n) (hc : n ≤ c) (hn : 1 < n) (W : World) :
    (Instr.slice 24 (.slice (some ⟨b, o, none⟩) n c) (some (.int .i64 1)) (some (.int .i64 (k : Int))) none).run Try.prog W = .ok (.slice (some ⟨b, o + 1, none⟩) (k - 1) (c - 1)) W := by
  have h2 : (1 : Int) ≤ (k : Int) := by omega
  have h3 : (k : Int) ≤ (c : Int) := by omega
  have h4 : ¬ c = 1 := by omega
  have h5 : (0 : Int) ≤ (k : Int) := by omega
  go_simp
theorem slice_fromP (b o n c j : Nat) (h : j ≤ n) (hc : n ≤ c) :
    ∃ oo, (∀ W, (Instr.slice 24 (.slice (some ⟨b, o, none⟩) n c) (some (.int .i64 (j : Int))) none none).run Try.prog W = .ok (.slice (some ⟨b, oo, none⟩) (n - j) (c - j)) W) ∧ (j < n → oo = o + j) := by
  have h1 : (0 : Int) ≤ (j : Int) := by omega
  have h2 : (j : Int) ≤ (n : Int) := by omega
  by_cases e : j = c
  · refine ⟨o, fun W => ?_, fun hlt => by omega⟩
    have h3 : ¬ n < c := by omega
    subst e
    go_simp
  · refine ⟨o + j, fun W => ?_, fun _ => rfl⟩
    have h4 : ¬ c = j := fun h => e h.symm
    go_simp

set_option maxRecDepth 100000 in
set_option maxHeartbeats 16000000 in
theorem pairUp_any (D : Nat → Nat → Int) (n : Nat) (hD : ∀ i k, i < n → k < n → 0 ≤ D i k ∧ D i k ≤ 140) (m : Nat) : ∀ (A B : Option Addr) (c cB N : Nat) (l : List Nat) (w : World), m ≤ 2 → l.length = N → N = 2 * m → N ≤ cB → (∀ y ∈ l, y < n) →
    Grid w 0 w.heap.size A (mat n D) → Own w 0 w.heap.size B ((intsR l).map (Value.int .i64)) →
    Calls Try.prog 44 #[.slice A n c, .slice B N cB] w fun e w' => e = .returned (.int .i64 (pairF D m l)) ∧ Below w.heap.size w w' := by
  obtain ⟨i0, hi0, hz0, hz1, hz2⟩ := info_parts Try.info3
  have HDD := Lib.hid hD
  clear hD
  induction m with
  | zero =>
    intro A B c cB N l w hm hl hN hcB hln hg hB
    have h0 : ((N : Int) == 0) = true := by rw [hN]; rfl
    clear hl hN hg hB hln
    go_enter Try.func44, Try.ntmps44
    go_wp2_with fail
    go_ret
    exact ⟨rfl, Below.refl _ _⟩
  | succ m ih =>
    intro A B c cB N l w hm hl hN hcB hln hg hB
    have HIH := Lib.hid ih
    clear ih
    have h0 : ((N : Int) == 0) = false := beq_eq_false_iff_ne.2 (by omega)
    have hNm : 2 ≤ N := by omega
    have hN4 : N ≤ 6 := by omega
    have HNM := Lib.hid hN
    clear hN
    cases l with
    | nil => simp at hl; omega
    | cons x r =>
    have hrl : r.length + 1 = N := by simpa using hl
    have HRL := Lib.hid hrl
    have hx : x < n := hln x (by simp)
    have HRN := Lib.hid (show ∀ y ∈ r, y < n from fun y hy => hln y (by simp [hy]))
    obtain ⟨bB, oB, rfl, hbB, hcells⟩ := hB.open (by rw [List.length_map, intsR_len]; simp)
    obtain ⟨bA, oA, p, q, cc, rfl, hsq⟩ := hg.sq (by omega)
    have HSQ := Lib.hid hsq
    have HG := Lib.hid hg
    have HB := Lib.hid hB
    have HCE := Lib.hid hcells
    have x0 := hcells 0 (.int .i64 (x : Int)) rfl
    rw [Nat.add_zero] at x0
    have HX0 := Lib.hid x0
    obtain ⟨F, hF⟩ : ∃ F, pairF D m = F := ⟨_, rfl⟩
    have HF := Lib.hid hF
    have HV := Lib.hid (show pairF D (m + 1) (x :: r) = pairTo D F x r r.length by rw [← hF]; rfl)
    have HBD := Lib.hid (fun j (hj : j < r.length) => show 0 ≤ D x (r.getD j 0) ∧ D x (r.getD j 0) ≤ 140 ∧ 0 ≤ F (dropAt r j) ∧ F (dropAt r j) ≤ 280 from by
      have h2 : r.getD j 0 < n := by rw [List.getD, List.getElem?_eq_getElem hj]; exact HRN.out _ (List.getElem_mem hj)
      have h3 := HDD.out x _ hx h2
      have h4 := pairF_bd HDD.out m (dropAt r j) (by have := dropAt_len hj; have := HNM.out; omega) (dropAt_lt HRN.out)
      rw [hF] at h4
      have h5 : (140 : Int) * m ≤ 280 := by omega
      omega)
    clear hl hln hg hB hsq hcells x0 hF hrl
    go_enter Try.func44, Try.ntmps44
    go_wp2_with fail
    go_loopw [5, 6] (fun v u wr => ∃ k : Nat, 1 ≤ k ∧ k ≤ N ∧ u = .int .i64 (k : Int) ∧ v = .int .i64 (pairTo D F x r (k - 1)) ∧ Below w.heap.size w wr) (fun _ u _ => N - (intOf u).toNat)
    case atStart => exact ⟨1, by omega, by omega, rfl, rfl, Below.refl _ _⟩
    case round =>
      obtain ⟨k, hk1, hk, rfl, rfl, hbr⟩ := hrel
      have HBR := Lib.hid hbr
      have hbz := hbr.size
      clear hbr
      by_cases hlk : k < N
      · have hBr : Own wr 0 wr.heap.size (some ⟨bB, oB, none⟩) ((intsR (x :: r)).map (Value.int .i64)) := (HB.out.below HBR.out).more hbz
        have hsl1 := slice_midP bB oB N cB k hk1 (by omega) hcB (by omega)
        obtain ⟨k2, hk2⟩ : ∃ k2, k + 1 = k2 := ⟨_, rfl⟩
        obtain ⟨oo, hsl2, hoo⟩ := slice_fromP bB oB N cB k2 (by omega) hcB
        have hw : IntKind.i64.wrap ((k : Int) + 1) = (k2 : Int) := by rw [← hk2]; push_cast; exact IntWalk.i64_in _ (by omega)
        have HS1 := Lib.hid (show Own wr 0 wr.heap.size (some ⟨bB, oB + 1, none⟩) (((intsR r).map (Value.int .i64)).take (k - 1)) from ((hBr.drop 1).take (k - 1)))
        have HS2 := Lib.hid (show Own wr 0 wr.heap.size (some ⟨bB, oo, none⟩) (((intsR r).map (Value.int .i64)).drop k) from by
          by_cases e : k2 < N
          · rw [hoo e, ← hk2]
            have := hBr.drop (k + 1)
            simpa [intsR] using this
          · exact .inl (List.drop_of_length_le (by rw [List.length_map, intsR_len]; have := HRL.out; omega)))
        have HU1 := Lib.hid (show (((intsR r).map (Value.int .i64)).take (k - 1)).length = (k - 1) * 1 by rw [List.length_take, List.length_map, intsR_len]; have := HRL.out; omega)
        have HU2 := Lib.hid (show (((intsR r).map (Value.int .i64)).drop k).length = (N - k2) * 1 by rw [List.length_drop, List.length_map, intsR_len]; have := HRL.out; omega)
        have HC1 := Lib.hid (fun u (hu : u ∈ ((intsR r).map (Value.int .i64)).take (k - 1)) => intsR_cells r u (List.mem_of_mem_take hu))
        have HC2 := Lib.hid (fun u (hu : u ∈ ((intsR r).map (Value.int .i64)).drop k) => intsR_cells r u (List.mem_of_mem_drop hu))
        have hkr : k - 1 < r.length := by have := HRL.out; omega
        have HDL := Lib.hid (show dropAt r (k - 1) = r.take (k - 1) ++ r.drop k by unfold dropAt; rw [show k - 1 + 1 = k by omega])
        have hlen := dropAt_len hkr
        have y0 := HBD.out (k - 1) hkr
        have hyk : r.getD (k - 1) 0 < n := by rw [List.getD, List.getElem?_eq_getElem hkr]; exact HRN.out _ (List.getElem_mem hkr)
        have hck := HCE.out k (.int .i64 ((r.getD (k - 1) 0 : Nat) : Int)) (by
          rw [intsR_at (l := x :: r) (j := k) (by simp; omega)]
          congr 2
          rw [show (x :: r)[k]'(by simp; omega) = (x :: r)[k - 1 + 1]'(by simp; omega) by congr 1; omega, List.getElem_cons_succ, List.getD, List.getElem?_eq_getElem hkr]; rfl)
        have x0 := cell_keep HBR.out (by omega) HX0.out
        have xk := cell_keep HBR.out (by omega) hck
        obtain ⟨_, hall⟩ := HSQ.out.below HBR.out
        obtain ⟨z1, zp, z3⟩ := hall x hx
        have z4 := z3 _ hyk
        have HTO := Lib.hid (show pairTo D F x r k = bestS (pairTo D F x r (k - 1)) (D x (r.getD (k - 1) 0) + F (dropAt r (k - 1))) by
          obtain ⟨j, rfl⟩ : ∃ j, k = j + 1 := ⟨k - 1, by omega⟩
          rfl)
        have hbt := pairTo_bd (D := D) (F := F) (x := x) (r := r) (M := 420) (fun j hj => by have := HBD.out j hj; omega) (k - 1) (by omega)
        have HDLEN := Lib.hid (show (dropAt r (k - 1)).length = N - 2 by have := HRL.out; omega)
        obtain ⟨y, hy⟩ : ∃ y, r.getD (k - 1) 0 = y := ⟨_, rfl⟩
        rw [hy] at xk z4 hyk y0 HTO
        obtain ⟨d, hd⟩ : ∃ d, D x y = d := ⟨_, rfl⟩
        rw [hd] at z4 y0 HTO
        obtain ⟨f, hf⟩ : ∃ f, F (dropAt r (k - 1)) = f := ⟨_, rfl⟩
        have HFF := Lib.hid hf
        rw [hf] at y0 HTO
        obtain ⟨bs, hbs⟩ : ∃ bs, pairTo D F x r (k - 1) = bs := ⟨_, rfl⟩
        rw [hbs] at hbt HTO ⊢
        have hbs1 : -1 ≤ bs ∧ bs ≤ 420 := by omega
        have i1 : (0 : Int) ≤ x := by omega
        have i2 : (x : Int) < n := by omega
        have i3 : (0 : Int) ≤ y := by omega
        have i4 : (y : Int) < n := by omega
        have i5 : (0 : Int) ≤ k := by omega
        have i6 : (k : Int) < N := by omega
        have i7 : (0 : Int) < N := by omega
        have i8 : 0 < N := by omega
        have hbA := HSQ.out.1
        have HKEEP := Lib.hid (fun (X : World) (hX : Below wr.heap.size wr X) => show (X.cell? ⟨bB, oB, none⟩ = some (.int .i64 (x : Int)) ∧ X.cell? ⟨bB, oB + k, none⟩ = some (.int .i64 (y : Int))) ∧ (X.cell? ⟨bA, oA + x, none⟩ = some (.slice (some ⟨p x, q x, none⟩) n (cc x)) ∧ X.cell? ⟨p x, q x + y, none⟩ = some (.int .i64 d)) from ⟨⟨cell_keep hX (by omega) x0, cell_keep hX (by omega) xk⟩, ⟨cell_keep hX (by omega) z1, cell_keep hX (by omega) z4⟩⟩)
        have HCALL := Lib.hid (fun (W W2 : World) (hW : Below wr.heap.size wr W) (hW2 : Below W.heap.size W W2) (A3 : Option Addr) (c3 : Nat) (h3 : W.ownsRow wr.heap.size 3 1 (.slice A3 (N - 2) c3) (N - 2) (((intsR r).map (Value.int .i64)).take (k - 1) ++ ((intsR r).map (Value.int .i64)).drop k)) => show Calls Try.prog 44 #[.slice (some ⟨bA, oA, none⟩) n c, .slice A3 (N - 2) c3] W2 (fun e w' => e = .returned (.int .i64 f) ∧ Below W2.heap.size W2 w') from by
          have h4 := HIH.out (some ⟨bA, oA, none⟩) A3 c c3 (N - 2) (dropAt r (k - 1)) W2 (by omega) HDLEN.out (by have := HNM.out; omega) (own_cap h3) (dropAt_lt HRN.out) ((HG.out.below (HBR.out.trans ((hW.trans (hW2.mono hW.size)).mono hbz))).more (by have := hW.size; have := hW2.size; omega)) (by
            have h5 := (own_of_rowS (by decide) h3).row
            rw [HDL.out, intsR, List.map_append, List.map_append, List.map_take, List.map_take, List.map_drop, List.map_drop]
            exact h5.past hW2)
          rwa [HF.out, HFF.out] at h4)
        have HK2 := Lib.hid hk2
        clear hBr hoo hkr hlen hck hall z3 hy hd hf hbs hbt hk2 zp
        go_wp2_with fail
        go_region_law (first
          | (refine step_extend (w := wr.drew.alloc (.cells #[] 3)) (by rfl) (.tmp 18) (.tmp 21) 24 (by rfl) i0 (.int .i64 0) 8 Try.underlying24 hi0 hz0 hz1 hz2 rfl (by decide) _ _ (by rfl) (first_lit _ wr.heap.size (Nat.le_refl _)) _ _ _ _ _ (by rfl) HU1.out (HS1.out.grownN (Nat.le_refl _) (g_alloc (g_drew (World.grownBy.refl wr none)) _)) HC1.out (by omega) (by omega) (g_alloc (g_drew (World.grownBy.refl wr none)) _).size ?_; intro A2 c2 w2 hown2 hg2; simp only [Nat.zero_add]; have hgA : wr.grownBy w2 none := g_new (g_alloc (g_drew (World.grownBy.refl wr none)) _) hg2 (fun i hi => ((first_lit wr.drew wr.heap.size (Nat.le_refl _)).lt _ hi).1); have hown2' : w2.ownsRow wr.heap.size 3 1 (.slice A2 (k - 1) c2) (k - 1) (((intsR r).map (Value.int .i64)).take (k - 1)) := (by simpa using hown2))
          | (refine step_extend (w := w2) (by rfl) (.tmp 22) (.tmp 26) 24 (by rfl) i0 (.int .i64 0) 8 Try.underlying24 hi0 hz0 hz1 hz2 rfl (by decide) _ _ (by rfl) hown2' _ _ _ _ _ (by rfl) HU2.out (HS2.out.grownN (Nat.le_refl _) hgA) HC2.out (by omega) (by omega) hgA.size ?_; intro A3 c3 w3 hown3 hg3; have hgB : wr.grownBy w3 none := g_new hgA hg3 (fun i hi => (hown2'.lt _ hi).1)))
        have hel : k - 1 + (N - k2) = N - 2 := by have := HK2.out; omega
        simp only [hel] at hown3 ⊢
        have HB3 := Lib.hid (below_g hgB (Nat.le_refl _))
        have HO3 := Lib.hid hown3
        have hz3 := hgB.size
        have hwf : IntKind.i64.wrap (d + f) = d + f := IntWalk.i64_in _ (by omega)
        clear hel hown3 hg3 hgB hgA hg2 hown2 hown2' hsl1 hsl2 hw x0 xk z1 z4
        go_wp2_with fail
        go_region_held3 (fun w' => (w'.cell? ⟨bB, oB, none⟩ = some (.int .i64 (x : Int)) ∧ w'.cell? ⟨bB, oB + k, none⟩ = some (.int .i64 (y : Int))) ∧ (w'.cell? ⟨bA, oA + x, none⟩ = some (.slice (some ⟨p x, q x, none⟩) n (cc x)) ∧ w'.cell? ⟨p x, q x + y, none⟩ = some (.int .i64 d)))
          (exact HKEEP.out _ (by first | exact HB5.out | exact HB3.out.trans ((below_drewT _).mono hz3)))
          (first
          | (go_at_call 44; refine (HCALL.out w3 _ HB3.out (below_drewT _) A3 c3 HO3.out).mono ?_; rintro e w5 ⟨rfl, hb5⟩; have HB5 := Lib.hid (HB3.out.trans (((below_drewT _).trans (hb5.mono (Nat.le_refl _))).mono hz3)); clear hb5))
        go_simp
        have HBW := Lib.hid (HBR.out.trans (HB5.out.mono hbz))
        by_cases e1 : bs < 0
        · have he1 : decide (bs < 0) = true := decide_eq_true e1
          have HT := Lib.hid (show pairTo D F x r k = d + f by rw [HTO.out]; unfold bestS; rw [if_pos (.inl e1)])
          clear e1
          go_wp2_with fail
          go_roundw
          case rel => exact ⟨k + 1, by omega, by omega, by go_num, by rw [Nat.add_sub_cancel, HT.out], HBW.out⟩
          case measure => simp [intOf]; omega
        · have he1 : decide (bs < 0) = false := decide_eq_false e1
          by_cases e2 : d + f < bs
          · have he2 : decide (d + f < bs) = true := decide_eq_true e2
            have HT := Lib.hid (show pairTo D F x r k = d + f by rw [HTO.out]; unfold bestS; rw [if_pos (.inr e2)])
            clear e1 e2
            go_wp2_with fail
            go_roundw
            case rel => exact ⟨k + 1, by omega, by omega, by go_num, by rw [Nat.add_sub_cancel, HT.out], HBW.out⟩
            case measure => simp [intOf]; omega
          · have he2 : decide (d + f < bs) = false := decide_eq_false e2
            have HT := Lib.hid (show pairTo D F x r k = bs by rw [HTO.out]; unfold bestS; rw [if_neg (by omega)])
            clear e1 e2
            go_wp2_with fail
            go_roundw
            case rel => exact ⟨k + 1, by omega, by omega, by go_num, by rw [Nat.add_sub_cancel, HT.out], HBW.out⟩
            case measure => simp [intOf]; omega
      · have hkN : N = k := by omega
        subst hkN
        have HR := Lib.hid (show pairTo D F x r (N - 1) = pairF D (m + 1) (x :: r) by rw [HV.out, show N - 1 = r.length by have := HRL.out; omega])
        go_wp2_with fail
        go_ret
        exact ⟨by rw [HR.out]; rfl, HBR.out⟩
end Go.Proofs.Ytjklnknlifpidaa
