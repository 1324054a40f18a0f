/- The first longest rising row, plain. No condition. -/
import Derived.Test.YtempfagjbpnlcaaI0
namespace Go.Proofs.Ytempfagjbpnlcaa
open Go.RowKit

theorem getD_ne3 {m : Nat} {zs : List Int} (hv : rowB m zs = true) {i j : Nat} (hi : i < zs.length) (hj : j < zs.length) (h : i ≠ j) : zs.getD i 0 ≠ zs.getD j 0 := fun e => by
  rw [getD_get hi, getD_get hj] at e
  exact h (rowB_nodup hv i j hi hj e)

def cmpL : List Int → List Int → Int
  | [], [] => 0
  | [], _ :: _ => -1
  | _ :: _, [] => 1
  | x :: xs, y :: ys => if x < y then -1 else if y < x then 1 else cmpL xs ys
theorem cmpL_refl (a : List Int) : cmpL a a = 0 := by
  induction a with
  | nil => rfl
  | cons x a ih => simp [cmpL, ih]
theorem cmpL_eq {a b : List Int} (h : cmpL a b = 0) : a = b := by
  induction a generalizing b with
  | nil => cases b with
    | nil => rfl
    | cons y b => simp [cmpL] at h
  | cons x a ih => cases b with
    | nil => simp [cmpL] at h
    | cons y b =>
      simp only [cmpL] at h
      split at h
      · omega
      · split at h
        · omega
        · rw [ih h, show x = y by omega]
theorem cmpL_anti (a b : List Int) : cmpL a b = - cmpL b a := by
  induction a generalizing b with
  | nil => cases b <;> simp [cmpL]
  | cons x a ih => cases b with
    | nil => simp [cmpL]
    | cons y b =>
      simp only [cmpL]
      by_cases h1 : x < y
      · rw [if_pos h1, if_neg (by omega), if_pos h1]
      · by_cases h2 : y < x
        · rw [if_neg h1, if_pos h2, if_pos h2]; rfl
        · rw [if_neg h1, if_neg h2, if_neg h2, if_neg h1]; exact ih b
theorem cmpL_trans {a b c : List Int} (h1 : 0 ≤ cmpL b a) (h2 : 0 ≤ cmpL c b) : 0 ≤ cmpL c a := by
  induction a generalizing b c with
  | nil => cases c with
    | nil => simp [cmpL]
    | cons z c => simp [cmpL]
  | cons x a ih => cases b with
    | nil => simp [cmpL] at h1
    | cons y b => cases c with
      | nil => simp [cmpL] at h2
      | cons z c =>
        simp only [cmpL] at h1 h2 ⊢
        by_cases g1 : y < x
        · rw [if_pos g1] at h1; omega
        · by_cases g2 : z < y
          · rw [if_pos g2] at h2; omega
          · rw [if_neg g1] at h1
            rw [if_neg g2] at h2
            by_cases g3 : x < y
            · rw [if_neg (by omega), if_pos (by omega)]; omega
            · by_cases g4 : y < z
              · rw [if_neg (by omega), if_pos (by omega)]; omega
              · rw [if_neg g3] at h1
                rw [if_neg g4] at h2
                rw [if_neg (by omega), if_neg (by omega)]
                exact ih h1 h2
theorem cmpL_snoc {a b : List Int} {x : Int} (hl : a.length = b.length) : cmpL (a ++ [x]) (b ++ [x]) = cmpL a b := by
  induction a generalizing b with
  | nil => cases b with
    | nil => simp [cmpL]
    | cons y b => simp at hl
  | cons z a ih => cases b with
    | nil => simp at hl
    | cons y b => simp only [List.cons_append, cmpL]; rw [ih (by simpa using hl)]

/-- The row b is better than a. -/
def better (a b : List Int) : Bool := decide (a.length < b.length) || (decide (a.length = b.length) && decide (cmpL b a < 0))
theorem better_no {a b : List Int} : better a b = false ↔ b.length ≤ a.length ∧ (b.length = a.length → 0 ≤ cmpL b a) := by
  simp only [better, Bool.or_eq_false_iff, Bool.and_eq_false_iff, decide_eq_false_iff_not]
  constructor
  · rintro ⟨h1, h2⟩; exact ⟨by omega, fun e => by rcases h2 with h | h <;> omega⟩
  · rintro ⟨h1, h2⟩
    refine ⟨by omega, ?_⟩
    by_cases e : a.length = b.length
    · exact .inr (by have := h2 e.symm; omega)
    · exact .inl e
theorem better_trans {a b c : List Int} (h1 : better a b = false) (h2 : better b c = false) : better a c = false := by
  rw [better_no] at *
  exact ⟨by omega, fun e => cmpL_trans (h1.2 (by omega)) (h2.2 (by omega))⟩
theorem better_turn {a b : List Int} (h : better a b = true) : better b a = false := by
  rw [better_no]
  simp only [better, Bool.or_eq_true, Bool.and_eq_true, decide_eq_true_eq] at h
  rcases h with h | ⟨h1, h2⟩
  · exact ⟨by omega, fun e => by omega⟩
  · exact ⟨by omega, fun _ => by have := cmpL_anti a b; omega⟩
theorem better_self (a : List Int) : better a a = false := better_no.2 ⟨Nat.le_refl _, fun _ => by rw [cmpL_refl]; omega⟩
theorem better_snoc {a b : List Int} {x : Int} (h : better a b = false) : better (a ++ [x]) (b ++ [x]) = false := by
  rw [better_no] at *
  simp only [List.length_append, List.length_singleton]
  exact ⟨by omega, fun e => by rw [cmpL_snoc (by omega)]; exact h.2 (by omega)⟩
theorem better_eq {a b : List Int} (h1 : better a b = false) (h2 : better b a = false) : a = b := by
  rw [better_no] at *
  have hl : a.length = b.length := by omega
  have h3 := h1.2 hl.symm
  have h4 := h2.2 hl
  have := cmpL_anti a b
  exact cmpL_eq (by omega)
theorem better_nil (a : List Int) : better a [] = false := better_no.2 ⟨by simp, fun e => by
  have : a = [] := List.eq_nil_of_length_eq_zero (by simpa using e.symm)
  subst this; simp [cmpL]⟩

/-- The first longest rising row. -/
def IsBest (zs r : List Int) : Prop := (∃ js, Chain zs js ∧ r = valsOf zs js) ∧ ∀ js, Chain zs js → better r (valsOf zs js) = false
theorem best_one {zs r r' : List Int} (h : IsBest zs r) (h' : IsBest zs r') : r = r' := by
  obtain ⟨⟨js, hc, e⟩, h2⟩ := h
  obtain ⟨⟨js', hc', e'⟩, h2'⟩ := h'
  have h3 := h2 js' hc'
  have h4 := h2' js hc
  rw [← e'] at h3
  rw [← e] at h4
  exact better_eq h3 h4
theorem vals_len (zs : List Int) (js : List Nat) : (valsOf zs js).length = js.length := by simp [valsOf]
theorem best_len {zs r : List Int} (h : IsBest zs r) : r.length = lis zs := by
  obtain ⟨⟨js, hc, rfl⟩, h2⟩ := h
  obtain ⟨js', hc', hl⟩ := chain_of_lis zs
  have := (better_no.1 (h2 js' hc')).1
  have := chain_lis hc
  rw [vals_len, vals_len] at *
  omega

/-! The program's way: the best row behind each letter. -/
def bestTo (rows : List (List Int)) (limit : Int) : Nat → List Int
  | 0 => []
  | k + 1 => if (rows.getD k []).getD ((rows.getD k []).length - 1) 0 < limit && better (bestTo rows limit k) (rows.getD k []) then rows.getD k [] else bestTo rows limit k
def rowsTo (zs : List Int) : Nat → List (List Int)
  | 0 => []
  | i + 1 => rowsTo zs i ++ [bestTo (rowsTo zs i) (zs.getD i 0) i ++ [zs.getD i 0]]
theorem rowsTo_len (zs : List Int) (i : Nat) : (rowsTo zs i).length = i := by
  induction i with
  | zero => rfl
  | succ i ih => simp [rowsTo, ih]
def rowAt (zs : List Int) (j : Nat) : List Int := bestTo (rowsTo zs j) (zs.getD j 0) j ++ [zs.getD j 0]
theorem rowsTo_get (zs : List Int) {i j : Nat} (h : j < i) : (rowsTo zs i).getD j [] = rowAt zs j := by
  induction i with
  | zero => omega
  | succ i ih =>
    simp only [rowsTo]
    by_cases e : j = i
    · subst e
      rw [List.getD_eq_getElem?_getD, List.getElem?_append_right (by rw [rowsTo_len]; exact Nat.le_refl _), rowsTo_len]
      simp [rowAt]
    · have := ih (by omega)
      rw [List.getD_eq_getElem?_getD, List.getElem?_append_left (by rw [rowsTo_len]; omega), ← List.getD_eq_getElem?_getD]
      exact this
theorem rowAt_last (zs : List Int) (j : Nat) : (rowAt zs j).getD ((rowAt zs j).length - 1) 0 = zs.getD j 0 := by simp [rowAt]
theorem bestTo_is (zs : List Int) (limit : Int) {i k : Nat} (h : k ≤ i) :
    (bestTo (rowsTo zs i) limit k = [] ∨ ∃ j, j < k ∧ zs.getD j 0 < limit ∧ bestTo (rowsTo zs i) limit k = rowAt zs j) ∧ ∀ j, j < k → zs.getD j 0 < limit → better (bestTo (rowsTo zs i) limit k) (rowAt zs j) = false := by
  induction k with
  | zero => exact ⟨.inl rfl, fun j hj => by omega⟩
  | succ k ih =>
    obtain ⟨h1, h2⟩ := ih (by omega)
    simp only [bestTo]
    rw [rowsTo_get zs (show k < i by omega), rowAt_last]
    by_cases hl : zs.getD k 0 < limit
    · by_cases hb : better (bestTo (rowsTo zs i) limit k) (rowAt zs k) = true
      · rw [decide_eq_true hl, hb]
        simp only [Bool.and_self, if_true]
        refine ⟨.inr ⟨k, by omega, hl, rfl⟩, fun j hj hjl => ?_⟩
        by_cases e : j = k
        · subst e; exact better_self _
        · exact better_trans (better_turn hb) (h2 j (by omega) hjl)
      · have hb' : better (bestTo (rowsTo zs i) limit k) (rowAt zs k) = false := by simpa using hb
        rw [hb']
        simp only [Bool.and_false, Bool.false_eq_true, if_false]
        refine ⟨?_, fun j hj hjl => ?_⟩
        · rcases h1 with h1 | ⟨j, g1, g2, g3⟩
          · exact .inl h1
          · exact .inr ⟨j, by omega, g2, g3⟩
        · by_cases e : j = k
          · subst e; exact hb'
          · exact h2 j (by omega) hjl
    · rw [decide_eq_false hl]
      simp only [Bool.false_and, Bool.false_eq_true, if_false]
      refine ⟨?_, fun j hj hjl => ?_⟩
      · rcases h1 with h1 | ⟨j, g1, g2, g3⟩
        · exact .inl h1
        · exact .inr ⟨j, by omega, g2, g3⟩
      · by_cases e : j = k
        · subst e; exact absurd hjl hl
        · exact h2 j (by omega) hjl
theorem chain_snoc {zs : List Int} {js : List Nat} {j i : Nat} (h : Chain zs (js ++ [j])) (hji : j < i) (hi : i < zs.length) (hlt : zs.getD j 0 < zs.getD i 0) : Chain zs (js ++ [j] ++ [i]) := by
  refine ⟨List.pairwise_append.2 ⟨h.1, by simp, fun a ha b hb => ?_⟩, fun a ha => ?_⟩
  · simp only [List.mem_singleton] at hb
    subst hb
    rcases List.mem_append.1 ha with ha | ha
    · have := (List.pairwise_append.1 h.1).2.2 a ha j (by simp)
      exact ⟨by omega, by omega⟩
    · simp only [List.mem_singleton] at ha; subst ha; exact ⟨hji, hlt⟩
  · rcases List.mem_append.1 ha with ha | ha
    · exact h.2 a ha
    · simp only [List.mem_singleton] at ha; subst ha; exact hi
theorem vals_snoc (zs : List Int) (js : List Nat) (i : Nat) : valsOf zs (js ++ [i]) = valsOf zs js ++ [zs.getD i 0] := by simp [valsOf]
theorem rowAt_best {zs : List Int} (i : Nat) (hi : i < zs.length) : (∃ js, Chain zs (js ++ [i]) ∧ rowAt zs i = valsOf zs (js ++ [i])) ∧ ∀ js, Chain zs (js ++ [i]) → better (rowAt zs i) (valsOf zs (js ++ [i])) = false := by
  induction i using Nat.strongRecOn with
  | _ i ih =>
    obtain ⟨h1, h2⟩ := bestTo_is zs (zs.getD i 0) (Nat.le_refl i)
    refine ⟨?_, fun js hc => ?_⟩
    · rcases h1 with h1 | ⟨j, g1, g2, g3⟩
      · exact ⟨[], ⟨by simp, by simpa using hi⟩, by unfold rowAt; rw [h1]; rfl⟩
      · obtain ⟨⟨js, hc, e⟩, _⟩ := ih j g1 (by omega)
        exact ⟨js ++ [j], chain_snoc hc g1 hi g2, by rw [vals_snoc, ← e, ← g3]; rfl⟩
    · rw [vals_snoc]
      unfold rowAt
      refine better_snoc ?_
      rcases List.eq_nil_or_concat js with e | ⟨q, j, e⟩
      · subst e; exact better_nil _
      · rw [List.concat_eq_append] at e
        subst e
        have hp := List.pairwise_append.1 hc.1
        have hj := hp.2.2 j (by simp) i (by simp)
        have hcq : Chain zs (q ++ [j]) := ⟨hp.1, fun a ha => hc.2 a (List.mem_append_left _ ha)⟩
        have hjn := hcq.2 j (by simp)
        exact better_trans (h2 j hj.1 hj.2) ((ih j hj.1 hjn).2 q hcq)
def riseL (zs : List Int) : List Int := bestTo (rowsTo zs zs.length) zs.length zs.length
theorem riseL_best {m : Nat} {zs : List Int} (hv : rowB m zs = true) : IsBest zs (riseL zs) := by
  obtain ⟨h1, h2⟩ := bestTo_is zs (zs.length : Int) (Nat.le_refl zs.length)
  refine ⟨?_, fun js hc => ?_⟩
  · rcases h1 with h1 | ⟨j, g1, _, g3⟩
    · exact ⟨[], ⟨by simp, by simp⟩, by unfold riseL; rw [h1]; rfl⟩
    · obtain ⟨⟨js, hc, e⟩, _⟩ := rowAt_best j g1
      exact ⟨js ++ [j], hc, by unfold riseL; rw [g3, e]⟩
  · unfold riseL
    rcases List.eq_nil_or_concat js with e | ⟨q, j, e⟩
    · subst e; exact better_nil _
    · rw [List.concat_eq_append] at e
      subst e
      have hjn := hc.2 j (by simp)
      exact better_trans (h2 j hjn (by rw [getD_get hjn]; exact (rowB_at hv hjn).1.2)) ((rowAt_best j hjn).2 q hc)

/-! The document's way: from the front. -/
def dnTo (zs : List Int) (f : Nat → Nat) (i : Nat) : Nat → Nat
  | 0 => 1
  | m + 1 => if zs.getD i 0 < zs.getD (i + 1 + m) 0 then max (dnTo zs f i m) (f (i + 1 + m) + 1) else dnTo zs f i m
def dnF (zs : List Int) : Nat → Nat → Nat
  | 0 => fun _ => 0
  | t + 1 => fun j => if j + t + 1 = zs.length then dnTo zs (dnF zs t) j t else dnF zs t j
/-- How long the longest rising row is that begins at place i. -/
def dn (zs : List Int) (i : Nat) : Nat := dnF zs (zs.length - i) i
theorem dnTo_congr {zs : List Int} {f g : Nat → Nat} {i m : Nat} (h : ∀ k, i < k → k ≤ i + m → f k = g k) : dnTo zs f i m = dnTo zs g i m := by
  induction m with
  | zero => rfl
  | succ m ih => simp only [dnTo]; rw [ih (fun k h1 h2 => h k h1 (by omega)), h _ (by omega) (by omega)]
theorem dnF_dn (zs : List Int) {t j : Nat} (h : zs.length ≤ j + t) (hj : j < zs.length) : dnF zs t j = dn zs j := by
  induction t with
  | zero => omega
  | succ t ih =>
    by_cases e : j + t + 1 = zs.length
    · unfold dn; rw [show zs.length - j = t + 1 by omega]
    · simp only [dnF]; rw [if_neg e, ih (by omega)]
theorem dn_eq (zs : List Int) {i : Nat} (hi : i < zs.length) : dn zs i = dnTo zs (dn zs) i (zs.length - 1 - i) := by
  have : dn zs i = dnF zs (zs.length - 1 - i + 1) i := by unfold dn; congr 1; omega
  rw [this]
  simp only [dnF]
  rw [if_pos (by omega)]
  exact dnTo_congr fun k h1 h2 => dnF_dn zs (by omega) (by omega)
theorem dnTo_ge {zs : List Int} {f : Nat → Nat} {i m k : Nat} (h1 : i < k) (h2 : k ≤ i + m) (h : zs.getD i 0 < zs.getD k 0) : f k + 1 ≤ dnTo zs f i m := by
  induction m with
  | zero => omega
  | succ m ih =>
    simp only [dnTo]
    by_cases e : k = i + 1 + m
    · subst e; rw [if_pos h]; omega
    · have := ih (by omega); split <;> omega
theorem dnTo_from (zs : List Int) (f : Nat → Nat) (i m : Nat) : dnTo zs f i m = 1 ∨ ∃ k, i < k ∧ k ≤ i + m ∧ zs.getD i 0 < zs.getD k 0 ∧ dnTo zs f i m = f k + 1 := by
  induction m with
  | zero => exact .inl rfl
  | succ m ih =>
    simp only [dnTo]
    by_cases h : zs.getD i 0 < zs.getD (i + 1 + m) 0
    · rw [if_pos h]
      by_cases hc : dnTo zs f i m ≤ f (i + 1 + m) + 1
      · exact .inr ⟨i + 1 + m, by omega, by omega, h, by omega⟩
      · rcases ih with ih | ⟨k, h1, h2, h3, h4⟩
        · exact .inl (by omega)
        · exact .inr ⟨k, h1, by omega, h3, by omega⟩
    · rw [if_neg h]
      rcases ih with ih | ⟨k, h1, h2, h3, h4⟩
      · exact .inl ih
      · exact .inr ⟨k, h1, by omega, h3, h4⟩
theorem dnTo_pos (zs : List Int) (f : Nat → Nat) (i m : Nat) : 1 ≤ dnTo zs f i m := by
  rcases dnTo_from zs f i m with h | ⟨k, _, _, _, h⟩ <;> omega
theorem dnTo_le {zs : List Int} {f : Nat → Nat} {i m B : Nat} (h : ∀ k, i < k → k ≤ i + m → f k ≤ B) : dnTo zs f i m ≤ B + 1 := by
  rcases dnTo_from zs f i m with h1 | ⟨k, h1, h2, _, h4⟩
  · omega
  · have := h k h1 h2; omega
theorem dn_gt {zs : List Int} {i k : Nat} (h1 : i < k) (hk : k < zs.length) (h : zs.getD i 0 < zs.getD k 0) : dn zs k + 1 ≤ dn zs i := by
  rw [dn_eq zs (show i < zs.length by omega)]; exact dnTo_ge h1 (by omega) h
theorem dn_from {zs : List Int} {i : Nat} (hi : i < zs.length) : dn zs i = 1 ∨ ∃ k, i < k ∧ k < zs.length ∧ zs.getD i 0 < zs.getD k 0 ∧ dn zs i = dn zs k + 1 := by
  rw [dn_eq zs hi]
  rcases dnTo_from zs (dn zs) i (zs.length - 1 - i) with h | ⟨k, h1, h2, h3, h4⟩
  · exact .inl h
  · exact .inr ⟨k, h1, by omega, h3, h4⟩
theorem dn_le {zs : List Int} {i : Nat} (hi : i < zs.length) : dn zs i + i ≤ zs.length := by
  generalize ht : zs.length - i = t
  induction t using Nat.strongRecOn generalizing i with
  | _ t ih =>
    rcases dn_from hi with h | ⟨k, h1, h2, _, h4⟩
    · omega
    · have := ih (zs.length - k) (by omega) h2 rfl; omega
/-- The greatest over the last t places. -/
def mostTo (zs : List Int) : Nat → Nat
  | 0 => 0
  | t + 1 => max (mostTo zs t) (dn zs (zs.length - 1 - t))
theorem mostTo_ge (zs : List Int) {t i : Nat} (h : zs.length ≤ i + t) (hi : i < zs.length) : dn zs i ≤ mostTo zs t := by
  induction t with
  | zero => omega
  | succ t ih =>
    simp only [mostTo]
    by_cases e : i + t + 1 = zs.length
    · rw [show zs.length - 1 - t = i by omega]; omega
    · have := ih (by omega); omega
theorem mostTo_at (zs : List Int) {t : Nat} (h : t ≤ zs.length) : mostTo zs t = 0 ∨ ∃ i, i < zs.length ∧ dn zs i = mostTo zs t := by
  induction t with
  | zero => exact .inl rfl
  | succ t ih =>
    simp only [mostTo]
    by_cases hc : mostTo zs t ≤ dn zs (zs.length - 1 - t)
    · exact .inr ⟨zs.length - 1 - t, by omega, by omega⟩
    · rcases ih (by omega) with h1 | ⟨i, h1, h2⟩
      · exact .inl (by omega)
      · exact .inr ⟨i, h1, by omega⟩
theorem mostTo_le (zs : List Int) {t : Nat} (h : t ≤ zs.length) : mostTo zs t ≤ zs.length := by
  rcases mostTo_at zs h with h1 | ⟨i, h1, h2⟩
  · omega
  · have := dn_le h1; omega

/-- The least number with which a row of so many begins, over m places from a place on. -/
def selTo (zs : List Int) (most : Nat) (last : Int) (fr : Nat) : Nat → Int
  | 0 => -1
  | m + 1 => if last < zs.getD (fr + m) 0 ∧ dn zs (fr + m) = most ∧ (selTo zs most last fr m < 0 ∨ zs.getD (fr + m) 0 < zs.getD (selTo zs most last fr m).toNat 0) then ((fr + m : Nat) : Int) else selTo zs most last fr m
def selA (zs : List Int) (most : Nat) (last : Int) (fr : Nat) : Nat := (selTo zs most last fr (zs.length - fr)).toNat
def frontL (zs : List Int) : Nat → Int → Nat → List Int
  | 0, _, _ => []
  | m + 1, last, fr => zs.getD (selA zs (m + 1) last fr) 0 :: frontL zs m (zs.getD (selA zs (m + 1) last fr) 0) (selA zs (m + 1) last fr + 1)
theorem selTo_is (zs : List Int) (most : Nat) (last : Int) (fr m : Nat) :
    (selTo zs most last fr m = -1 ∧ ∀ i, fr ≤ i → i < fr + m → last < zs.getD i 0 → dn zs i ≠ most) ∨
    ∃ a : Nat, selTo zs most last fr m = (a : Int) ∧ fr ≤ a ∧ a < fr + m ∧ last < zs.getD a 0 ∧ dn zs a = most ∧ ∀ i, fr ≤ i → i < fr + m → last < zs.getD i 0 → dn zs i = most → zs.getD a 0 ≤ zs.getD i 0 := by
  induction m with
  | zero => exact .inl ⟨rfl, fun i h1 h2 => by omega⟩
  | succ m ih =>
    simp only [selTo]
    by_cases h1 : last < zs.getD (fr + m) 0 ∧ dn zs (fr + m) = most
    · rcases ih with ⟨e, h2⟩ | ⟨a, e, g1, g2, g3, g4, g5⟩
      · rw [if_pos ⟨h1.1, h1.2, .inl (by omega)⟩]
        refine .inr ⟨fr + m, rfl, by omega, by omega, h1.1, h1.2, fun i p1 p2 p3 p4 => ?_⟩
        by_cases ei : i = fr + m
        · subst ei; omega
        · exact absurd p4 (h2 i p1 (by omega) p3)
      · by_cases hlt : zs.getD (fr + m) 0 < zs.getD a 0
        · rw [if_pos ⟨h1.1, h1.2, .inr (by rw [e]; exact hlt)⟩]
          refine .inr ⟨fr + m, rfl, by omega, by omega, h1.1, h1.2, fun i p1 p2 p3 p4 => ?_⟩
          by_cases ei : i = fr + m
          · subst ei; omega
          · have := g5 i p1 (by omega) p3 p4; omega
        · rw [if_neg (by rintro ⟨_, _, h | h⟩; omega; rw [e] at h; exact hlt h)]
          refine .inr ⟨a, e, g1, by omega, g3, g4, fun i p1 p2 p3 p4 => ?_⟩
          by_cases ei : i = fr + m
          · subst ei; omega
          · exact g5 i p1 (by omega) p3 p4
    · rw [if_neg (by rintro ⟨p, q, _⟩; exact h1 ⟨p, q⟩)]
      rcases ih with ⟨e, h2⟩ | ⟨a, e, g1, g2, g3, g4, g5⟩
      · refine .inl ⟨e, fun i p1 p2 p3 p4 => ?_⟩
        by_cases ei : i = fr + m
        · subst ei; exact h1 ⟨p3, p4⟩
        · exact h2 i p1 (by omega) p3 p4
      · refine .inr ⟨a, e, g1, by omega, g3, g4, fun i p1 p2 p3 p4 => ?_⟩
        by_cases ei : i = fr + m
        · subst ei; exact absurd ⟨p3, p4⟩ h1
        · exact g5 i p1 (by omega) p3 p4
/-- What holds ahead of each choice: rows of so many begin there, and none longer. -/
def FrOk (zs : List Int) (most : Nat) (last : Int) (fr : Nat) : Prop := fr ≤ zs.length ∧ (∀ i, fr ≤ i → i < zs.length → last < zs.getD i 0 → dn zs i ≤ most) ∧ (most = 0 ∨ ∃ i, fr ≤ i ∧ i < zs.length ∧ last < zs.getD i 0 ∧ dn zs i = most)
theorem FrOk.sel {zs : List Int} {m : Nat} {last : Int} {fr : Nat} (h : FrOk zs (m + 1) last fr) :
    selTo zs (m + 1) last fr (zs.length - fr) = (selA zs (m + 1) last fr : Int) ∧ fr ≤ selA zs (m + 1) last fr ∧ selA zs (m + 1) last fr < zs.length ∧ last < zs.getD (selA zs (m + 1) last fr) 0 ∧ dn zs (selA zs (m + 1) last fr) = m + 1 ∧
      (∀ i, fr ≤ i → i < zs.length → last < zs.getD i 0 → dn zs i = m + 1 → zs.getD (selA zs (m + 1) last fr) 0 ≤ zs.getD i 0) ∧ FrOk zs m (zs.getD (selA zs (m + 1) last fr) 0) (selA zs (m + 1) last fr + 1) := by
  obtain ⟨h0, h1, h2⟩ := h
  rcases selTo_is zs (m + 1) last fr (zs.length - fr) with ⟨e, g⟩ | ⟨a, e, g1, g2, g3, g4, g5⟩
  · rcases h2 with h2 | ⟨i, p1, p2, p3, p4⟩
    · omega
    · exact absurd p4 (g i p1 (by omega) p3)
  · have ea : selA zs (m + 1) last fr = a := by unfold selA; rw [e]; rfl
    rw [ea]
    refine ⟨e, g1, by omega, g3, g4, fun i p1 p2 p3 p4 => g5 i p1 (by omega) p3 p4, by omega, fun i p1 p2 p3 => ?_, ?_⟩
    · have := dn_gt (show a < i by omega) p2 p3; omega
    · by_cases hm : m = 0
      · exact .inl hm
      · rcases dn_from (show a < zs.length by omega) with q | ⟨k, q1, q2, q3, q4⟩
        · omega
        · exact .inr ⟨k, by omega, q2, q3, by omega⟩
theorem chain_dn {zs : List Int} {js : List Nat} : ∀ j, Chain zs (j :: js) → js.length + 1 ≤ dn zs j := by
  induction js with
  | nil =>
    intro j h
    have hj := h.2 j (by simp)
    rcases dn_from hj with h | ⟨k, _, _, _, h⟩ <;> simp <;> omega
  | cons i js ih =>
    intro j h
    have hp := List.pairwise_cons.1 h.1
    have := ih i ⟨hp.2, fun a ha => h.2 a (List.mem_cons_of_mem _ ha)⟩
    have h2 := hp.1 i (by simp)
    have := dn_gt h2.1 (h.2 i (by simp)) h2.2
    simp only [List.length_cons]
    omega
theorem frontL_best {m0 : Nat} {zs : List Int} (hv : rowB m0 zs = true) (most : Nat) : ∀ (last : Int) (fr : Nat), FrOk zs most last fr →
    (∃ js, Chain zs js ∧ js.length = most ∧ (∀ j ∈ js, fr ≤ j ∧ last < zs.getD j 0) ∧ frontL zs most last fr = valsOf zs js) ∧
    ∀ js, Chain zs js → js.length = most → (∀ j ∈ js, fr ≤ j ∧ last < zs.getD j 0) → 0 ≤ cmpL (valsOf zs js) (frontL zs most last fr) := by
  induction most with
  | zero =>
    intro last fr h
    refine ⟨⟨[], ⟨by simp, by simp⟩, rfl, by simp, rfl⟩, fun js _ hl _ => ?_⟩
    have : js = [] := List.eq_nil_of_length_eq_zero hl
    subst this; simp [valsOf, frontL, cmpL]
  | succ m ih =>
    intro last fr h
    obtain ⟨_, s1, s2, s3, s4, s5, s6⟩ := h.sel
    have h1 := h.2.1
    simp only [frontL]
    obtain ⟨a, ea⟩ : ∃ a, selA zs (m + 1) last fr = a := ⟨_, rfl⟩
    rw [ea] at s1 s2 s3 s4 s5 s6 ⊢
    obtain ⟨⟨js, hc, hl, hj, e⟩, hbest⟩ := ih _ _ s6
    refine ⟨⟨a :: js, ⟨List.pairwise_cons.2 ⟨fun b hb => ⟨by have := (hj b hb).1; omega, (hj b hb).2⟩, hc.1⟩, fun b hb => ?_⟩, by simp [hl], fun b hb => ?_, by rw [e]; rfl⟩, fun js' hc' hl' hj' => ?_⟩
    · rcases List.mem_cons.1 hb with e | hb
      · subst e; exact s2
      · exact hc.2 b hb
    · rcases List.mem_cons.1 hb with e | hb
      · subst e; exact ⟨s1, s3⟩
      · exact ⟨by have := (hj b hb).1; omega, by have := (hj b hb).2; omega⟩
    · cases js' with
      | nil => simp at hl'
      | cons i js' =>
        have hi := hj' i (by simp)
        have hin := hc'.2 i (by simp)
        have hd := chain_dn i hc'
        simp only [List.length_cons] at hl'
        have hdle := h1 i hi.1 hin hi.2
        have hle := s5 i hi.1 hin hi.2 (by omega)
        simp only [valsOf, List.map_cons, cmpL]
        by_cases hlt : zs.getD a 0 < zs.getD i 0
        · rw [if_neg (by omega), if_pos hlt]; omega
        · have hia : i = a := Decidable.by_contra fun hne => getD_ne3 hv hin s2 hne (by omega)
          subst hia
          rw [if_neg (by omega), if_neg (by omega)]
          have hp := List.pairwise_cons.1 hc'.1
          exact hbest js' ⟨hp.2, fun b hb => hc'.2 b (List.mem_cons_of_mem _ hb)⟩ (by omega) fun b hb => ⟨by have := (hp.1 b hb).1; omega, (hp.1 b hb).2⟩
theorem frOk_start {m : Nat} {zs : List Int} (hv : rowB m zs = true) : FrOk zs (mostTo zs zs.length) (-1) 0 := by
  refine ⟨by omega, fun i _ hi _ => mostTo_ge zs (by omega) hi, ?_⟩
  rcases mostTo_at zs (Nat.le_refl zs.length) with h | ⟨i, h1, h2⟩
  · exact .inl h
  · exact .inr ⟨i, by omega, h1, by rw [getD_get h1]; have := (rowB_at hv h1).1.1; omega, h2⟩
theorem frontL_isBest {m : Nat} {zs : List Int} (hv : rowB m zs = true) : IsBest zs (frontL zs (mostTo zs zs.length) (-1) 0) := by
  obtain ⟨⟨js, hc, hl, _, e⟩, hb⟩ := frontL_best hv _ _ _ (frOk_start hv)
  refine ⟨⟨js, hc, e⟩, fun js' hc' => better_no.2 ⟨?_, fun he => ?_⟩⟩
  · rw [e, vals_len, vals_len, hl]
    cases js' with
    | nil => simp
    | cons i js' =>
      have h1 := chain_dn i hc'
      have h2 := mostTo_ge zs (t := zs.length) (i := i) (by omega) (hc'.2 i (by simp))
      simp only [List.length_cons]; omega
  · refine hb js' hc' ?_ fun j hj => ⟨by omega, ?_⟩
    · rw [e, vals_len, vals_len] at he; omega
    · have := hc'.2 j hj
      rw [getD_get this]; have := (rowB_at hv this).1.1; omega
theorem frontL_rise {m : Nat} {zs : List Int} (hv : rowB m zs = true) : frontL zs (mostTo zs zs.length) (-1) 0 = riseL zs := best_one (frontL_isBest hv) (riseL_best hv)
theorem riseL_len {m : Nat} {zs : List Int} (hv : rowB m zs = true) : (riseL zs).length = lis zs := best_len (riseL_best hv)
end Go.Proofs.Ytempfagjbpnlcaa
