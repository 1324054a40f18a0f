/- Rounds are at least there and back, plain. No condition. -/
import Derived.Test.YtjklnknlifpidaaRc4
namespace Go.Proofs.Ytjklnknlifpidaa
open Go.RowKit

section
def cross (S : Nat → Bool) (s : St) : Nat := if S s.1 = S s.2.1 then 0 else 1
def crossT (S : Nat → Bool) (es : List St) : Nat := (es.map (cross S)).sum
theorem sum_zero (l : List Nat) : (l.map fun _ => 0).sum = 0 := by
  induction l with
  | nil => rfl
  | cons a l ih => rw [List.map_cons, List.sum_cons, ih]
theorem sum_pick {n a : Nat} (S : Nat → Bool) (h : a < n) : ((List.range n).map fun v => if S v = true then (if a = v then 1 else 0) else 0).sum = if S a = true then 1 else 0 := by
  by_cases hs : S a = true
  · rw [if_pos hs]
    refine Eq.trans (congrArg List.sum (List.map_congr_left fun v _ => ?_)) (sum_one n a h)
    by_cases e : a = v
    · subst e; rw [if_pos hs]
    · rw [if_neg e, ite_self]
  · rw [if_neg hs]
    refine Eq.trans (congrArg List.sum (List.map_congr_left fun v _ => ?_)) (sum_zero (List.range n))
    by_cases e : a = v
    · subst e; rw [if_neg hs]
    · rw [if_neg e, ite_self]
theorem cross_parity {n : Nat} (S : Nat → Bool) {es : List St} (h : ∀ s ∈ es, s.1 < n ∧ s.2.1 < n) : ((List.range n).map fun v => if S v = true then degT es v else 0).sum % 2 = crossT S es % 2 := by
  induction es with
  | nil =>
    have : ((List.range n).map fun v => if S v = true then degT [] v else 0) = (List.range n).map fun _ => 0 := List.map_congr_left fun v _ => by simp [degT]
    rw [this, sum_zero]; rfl
  | cons s es ih =>
    have h1 := h s List.mem_cons_self
    have e : ((List.range n).map fun v => if S v = true then degT (s :: es) v else 0) = (List.range n).map fun v => ((if S v = true then (if s.1 = v then 1 else 0) else 0) + (if S v = true then (if s.2.1 = v then 1 else 0) else 0)) + (if S v = true then degT es v else 0) := List.map_congr_left fun v _ => by
      by_cases hv : S v = true
      · simp only [if_pos hv]; simp [degT, ends1]
      · simp only [if_neg hv]
    rw [e, sum_add, sum_add, sum_pick S h1.1, sum_pick S h1.2]
    have ih' := ih (fun t ht => h t (List.mem_cons_of_mem _ ht))
    show _ = (((s :: es).map (cross S)).sum) % 2
    rw [List.map_cons, List.sum_cons]
    change _ = (cross S s + crossT S es) % 2
    unfold cross
    cases S s.1 <;> cases S s.2.1 <;> simp <;> omega
theorem cut_even {n : Nat} (S : Nat → Bool) {es : List St} (h : ∀ s ∈ es, s.1 < n ∧ s.2.1 < n) (he : ∀ v, v < n → degT es v % 2 = 0) : crossT S es % 2 = 0 := by
  rw [← cross_parity S h]
  have : ∀ l : List Nat, (∀ v ∈ l, v < n) → (l.map fun v => if S v = true then degT es v else 0).sum % 2 = 0 := by
    intro l
    induction l with
    | nil => intro _; rfl
    | cons a l ih =>
      intro hl
      have h1 := ih fun v hv => hl v (List.mem_cons_of_mem _ hv)
      have h2 := he a (hl a List.mem_cons_self)
      rw [List.map_cons, List.sum_cons]
      split <;> omega
  exact this _ fun v hv => List.mem_range.1 hv
theorem cut_sum_le (x y : Nat) (hxy : x ≤ y) (T : Nat) : ((List.range T).map fun t => if decide (x ≤ t) = decide (y ≤ t) then 0 else 1).sum = min y T - min x T := by
  induction T with
  | zero => simp
  | succ T ih =>
    rw [List.range_succ, List.map_append, List.sum_append, ih]
    by_cases h1 : x ≤ T <;> by_cases h2 : y ≤ T <;> simp [h1, h2] <;> omega
theorem cut_sum {x y l : Nat} (h1 : x ≤ y + l) (h2 : y ≤ x + l) (T : Nat) : ((List.range T).map fun t => if decide (x ≤ t) = decide (y ≤ t) then 0 else 1).sum ≤ l := by
  by_cases h : x ≤ y
  · rw [cut_sum_le x y h T]; omega
  · have e : ((List.range T).map fun t => if decide (x ≤ t) = decide (y ≤ t) then 0 else 1) = (List.range T).map fun t => if decide (y ≤ t) = decide (x ≤ t) then 0 else 1 := List.map_congr_left fun t _ => by
      by_cases e : decide (x ≤ t) = decide (y ≤ t)
      · rw [if_pos e, if_pos e.symm]
      · rw [if_neg e, if_neg fun h => e h.symm]
    rw [e, cut_sum_le y x (by omega) T]; omega
theorem cuts_le {f : Nat → Nat} {es : List St} (h : ∀ s ∈ es, f s.1 ≤ f s.2.1 + s.2.2 ∧ f s.2.1 ≤ f s.1 + s.2.2) (T : Nat) : ((List.range T).map fun t => crossT (fun v => decide (f v ≤ t)) es).sum ≤ totL es := by
  induction es with
  | nil =>
    have : ((List.range T).map fun t => crossT (fun v => decide (f v ≤ t)) []) = (List.range T).map fun _ => 0 := List.map_congr_left fun v _ => rfl
    rw [this, sum_zero]; exact Nat.zero_le _
  | cons s es ih =>
    have e : ((List.range T).map fun t => crossT (fun v => decide (f v ≤ t)) (s :: es)) = (List.range T).map fun t => (if decide (f s.1 ≤ t) = decide (f s.2.1 ≤ t) then 0 else 1) + crossT (fun v => decide (f v ≤ t)) es := List.map_congr_left fun v _ => by
      simp only [crossT, List.map_cons, List.sum_cons]; rfl
    have h1 := h s List.mem_cons_self
    have h2 := cut_sum h1.1 h1.2 T
    have h3 := ih fun t ht => h t (List.mem_cons_of_mem _ ht)
    rw [e, sum_add]
    unfold totL at h3 ⊢
    rw [List.map_cons, List.sum_cons]
    omega
theorem crossT_none {S : Nat → Bool} {es : List St} (h : crossT S es = 0) : ∀ s ∈ es, S s.1 = S s.2.1 := by
  induction es with
  | nil => intro s hs; cases hs
  | cons s es ih =>
    simp only [crossT, List.map_cons, List.sum_cons] at h
    intro t ht
    rcases List.mem_cons.1 ht with rfl | ht
    · have : cross S t = 0 := by omega
      unfold cross at this
      by_cases e : S t.1 = S t.2.1
      · exact e
      · rw [if_neg e] at this; omega
    · exact ih (by unfold crossT; omega) t ht
theorem sum_ge (g : Nat → Nat) (T c : Nat) (h : ∀ t, t < T → c ≤ g t) : c * T ≤ ((List.range T).map g).sum := by
  induction T with
  | zero => simp
  | succ T ih =>
    have h1 := ih fun t ht => h t (by omega)
    have h2 := h T (by omega)
    rw [List.range_succ, List.map_append, List.sum_append]
    simp only [List.map_cons, List.map_nil, List.sum_cons, List.sum_nil]
    rw [Nat.mul_succ]; omega
theorem pairTo_is {D : Nat → Nat → Int} {F : List Nat → Int} {x : Nat} {r : List Nat} : ∀ j, 0 < j → ∃ i, i < j ∧ pairTo D F x r j = D x (r.getD i 0) + F (dropAt r i)
  | j + 1, _ => by
    show ∃ i, i < j + 1 ∧ bestS (pairTo D F x r j) _ = _
    unfold bestS
    by_cases h : pairTo D F x r j < 0 ∨ D x (r.getD j 0) + F (dropAt r j) < pairTo D F x r j
    · rw [if_pos h]; exact ⟨j, by omega, rfl⟩
    · rw [if_neg h]
      cases j with
      | zero => exact absurd (.inl (show (-1 : Int) < 0 by omega)) h
      | succ j =>
        obtain ⟨i, hi, he⟩ := pairTo_is (D := D) (F := F) (x := x) (r := r) (j + 1) (by omega)
        exact ⟨i, by omega, he⟩
theorem count_drop {r : List Nat} {j : Nat} (h : j < r.length) (v : Nat) : r.count v = (dropAt r j).count v + (if r.getD j 0 = v then 1 else 0) := by
  have e : r = r.take j ++ r[j] :: r.drop (j + 1) := by rw [← List.drop_eq_getElem_cons h, List.take_append_drop]
  have hg : r.getD j 0 = r[j] := by rw [List.getD, List.getElem?_eq_getElem h]; rfl
  rw [hg]
  have e2 := congrArg (List.count v) e
  rw [List.count_append, List.count_cons] at e2
  unfold dropAt
  rw [List.count_append]
  by_cases hv : r[j] = v
  · rw [if_pos hv]; simp [hv] at e2; omega
  · rw [if_neg hv]; simp [hv] at e2; omega
theorem pairF_is {n : Nat} {D : Nat → Nat → Int} (hD : ∀ i k, i < n → k < n → 0 ≤ D i k) : ∀ (m : Nat) (l : List Nat), l.length = 2 * m → (∀ y ∈ l, y < n) →
    ∃ ps : List St, (∀ s ∈ ps, s.1 < n ∧ s.2.1 < n ∧ (s.2.2 : Int) = D s.1 s.2.1) ∧ (totL ps : Int) = pairF D m l ∧ ∀ v, degT ps v = l.count v
  | 0, l, hl, _ => by
    have : l = [] := List.length_eq_zero_iff.1 (by omega)
    subst this
    exact ⟨[], ⟨(fun s hs => absurd hs List.not_mem_nil), ⟨rfl, fun v => rfl⟩⟩⟩
  | m + 1, [], hl, _ => by simp at hl
  | m + 1, x :: r, hl, hn => by
    simp only [List.length_cons] at hl
    have hx := hn x (by simp)
    have hr : ∀ y ∈ r, y < n := fun y hy => hn y (by simp [hy])
    obtain ⟨j, hj, he⟩ := pairTo_is (D := D) (F := pairF D m) (x := x) (r := r) r.length (by omega)
    obtain ⟨ps, h1, h2, h3⟩ := pairF_is hD m (dropAt r j) (by have := dropAt_len hj; omega) (dropAt_lt hr)
    have hy : r.getD j 0 < n := by rw [List.getD, List.getElem?_eq_getElem hj]; exact hr _ (List.getElem_mem hj)
    have h0 := hD x _ hx hy
    refine ⟨(x, r.getD j 0, (D x (r.getD j 0)).toNat) :: ps, fun s hs => ?_, ?_, fun v => ?_⟩
    · rcases List.mem_cons.1 hs with rfl | hs
      · exact ⟨hx, hy, Int.toNat_of_nonneg h0⟩
      · exact h1 s hs
    · show _ = pairTo D (pairF D m) x r r.length
      rw [he, ← h2]
      unfold totL
      rw [List.map_cons, List.sum_cons]
      push_cast
      rw [Int.toNat_of_nonneg h0]
    · have h4 := h3 v
      unfold degT at h4 ⊢
      rw [List.map_cons, List.sum_cons, h4, List.count_cons, count_drop hj v]
      unfold ends1
      by_cases e : x = v
      · simp [e]; omega
      · simp [e]; omega
theorem count_odd (p : Nat → Bool) (n v : Nat) : ((List.range n).filter p).count v = if v < n ∧ p v = true then 1 else 0 := by
  induction n with
  | zero => simp
  | succ n ih =>
    rw [List.range_succ, List.filter_append, List.count_append, ih]
    by_cases e : v = n
    · subst e
      cases h : p v <;> simp [h]
    · have e' : ¬ n = v := fun h => e h.symm
      cases h : p n <;> simp [h, e'] <;> (congr 1; simp; omega)
/-- A round is at least there and back. -/
theorem round_ge {n : Nat} {ss : List St} {D : Nat → Nat → Int} (hlt : ∀ s ∈ ss, s.1 < n ∧ s.2.1 < n) (hD : ∀ i k, i < n → k < n → 0 ≤ D i k) (htr : ∀ i j k, i < n → j < n → k < n → D i k ≤ D i j + D j k) (h0 : ∀ i, i < n → D i i = 0) (hsy : ∀ i k, i < n → k < n → D k i = D i k)
    (hst : ∀ a b l : Nat, (a, b, l) ∈ ss → a < n → b < n → D a b ≤ (l : Int)) {k : Nat} (hk : k < n) (hw : ∃ w, Wk ss n 0 k w) :
    2 * D 0 k ≤ (totL ss : Int) + pairF D ((oddL n ss).length / 2) (oddL n ss) := by
  have hn0 : 0 < n := by omega
  obtain ⟨ps, h1, h2, h3⟩ := pairF_is hD ((oddL n ss).length / 2) (oddL n ss) (oddL_even hlt) (oddL_lt n ss)
  rw [← h2]
  obtain ⟨f, hf⟩ : ∃ f : Nat → Nat, f = fun v => (min (D 0 v) (D 0 k)).toNat := ⟨_, rfl⟩
  have hf0 : f 0 = 0 := by rw [hf]; have := h0 0 hn0; have := hD 0 k hn0 hk; show (min (D 0 0) (D 0 k)).toNat = 0; omega
  have hfk : f k = (D 0 k).toNat := by rw [hf]; show (min (D 0 k) (D 0 k)).toNat = _; omega
  have hed : ∀ a b l : Nat, a < n → b < n → D a b ≤ (l : Int) → f a ≤ f b + l ∧ f b ≤ f a + l := fun a b l ha hb hl => by
    have g1 := htr 0 a b hn0 ha hb
    have g2 := htr 0 b a hn0 hb ha
    have g3 := hsy a b ha hb
    rw [hf]
    show (min (D 0 a) (D 0 k)).toNat ≤ (min (D 0 b) (D 0 k)).toNat + l ∧ (min (D 0 b) (D 0 k)).toNat ≤ (min (D 0 a) (D 0 k)).toNat + l
    omega
  have hes : ∀ s ∈ ss ++ ps, s.1 < n ∧ s.2.1 < n := fun s hs => by
    rcases List.mem_append.1 hs with hs | hs
    · exact hlt s hs
    · exact ⟨(h1 s hs).1, (h1 s hs).2.1⟩
  have hev : ∀ v, v < n → degT (ss ++ ps) v % 2 = 0 := fun v hv => by
    have e : degT (ss ++ ps) v = degT ss v + degT ps v := by unfold degT; rw [List.map_append, List.sum_append]
    rw [e, h3 v]
    unfold oddL
    rw [count_odd]
    by_cases ho : degT ss v % 2 = 1
    · rw [if_pos ⟨hv, by simp [ho]⟩]; omega
    · rw [if_neg fun h => ho (by simpa using h.2)]; omega
  have hsum := cuts_le (f := f) (es := ss ++ ps) (fun s hs => by
    rcases List.mem_append.1 hs with hs | hs
    · exact hed _ _ _ (hlt s hs).1 (hlt s hs).2 (hst _ _ _ hs (hlt s hs).1 (hlt s hs).2)
    · exact hed _ _ _ (h1 s hs).1 (h1 s hs).2.1 (by rw [(h1 s hs).2.2]; exact Int.le_refl _)) (D 0 k).toNat
  have htwo := sum_ge (fun t => crossT (fun v => decide (f v ≤ t)) (ss ++ ps)) (D 0 k).toNat 2 fun t ht => by
    have g1 := cut_even (fun v => decide (f v ≤ t)) hes hev
    by_cases g2 : crossT (fun v => decide (f v ≤ t)) (ss ++ ps) = 0
    · have g3 := crossT_none g2
      obtain ⟨w, hw⟩ := hw
      have g4 : decide (f 0 ≤ t) = decide (f k ≤ t) := Wk.shut (r := fun v => decide (f v ≤ t)) (fun s hs => g3 s (List.mem_append_left _ hs)) hw
      rw [hf0, hfk] at g4
      have g5 : decide (0 ≤ t) = true := by simp
      rw [g5] at g4
      have := of_decide_eq_true g4.symm
      omega
    · omega
  have e : totL (ss ++ ps) = totL ss + totL ps := by unfold totL; rw [List.map_append, List.sum_append]
  rw [e] at hsum
  have := hD 0 k hn0 hk
  omega
end
end Go.Proofs.Ytjklnknlifpidaa
