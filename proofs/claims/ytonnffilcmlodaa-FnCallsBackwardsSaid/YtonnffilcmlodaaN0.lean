/- Towns, plain: walks over streets, what is reached, least ways. No condition. -/
import Derived.Test.YtonnffilcmlodaaAid
namespace Go.Proofs.Ytonnffilcmlodaa
open Go.RowKit

abbrev St := Nat × Nat × Nat

/-- A walk over streets, its corners on the way below m, of at most so many halvings. -/
def WkF (ss : List St) (m : Nat) : Nat → Nat → Nat → Nat → Prop
  | 0, a, b, w => (a = b ∧ w = 0) ∨ (a, b, w) ∈ ss ∨ (b, a, w) ∈ ss
  | f + 1, a, b, w => WkF ss m f a b w ∨ ∃ v x y, v < m ∧ WkF ss m f a v x ∧ WkF ss m f v b y ∧ w = x + y
def Wk (ss : List St) (m a b w : Nat) : Prop := ∃ f, WkF ss m f a b w

section
variable {ss : List St} {m m' n a b v w x y : Nat}
theorem wkF_more {f f' : Nat} (h : WkF ss m f a b w) (hf : f ≤ f') : WkF ss m f' a b w := by
  induction f' with
  | zero => have : f = 0 := by omega
            subst this; exact h
  | succ f' ih =>
    by_cases e : f = f' + 1
    · subst e; exact h
    · exact .inl (ih (by omega))
theorem Wk.nil (ss : List St) (m a : Nat) : Wk ss m a a 0 := ⟨0, .inl ⟨rfl, rfl⟩⟩
theorem Wk.to (h : (a, b, w) ∈ ss) : Wk ss m a b w := ⟨0, .inr (.inl h)⟩
theorem Wk.back (h : (b, a, w) ∈ ss) : Wk ss m a b w := ⟨0, .inr (.inr h)⟩
theorem Wk.cat (hv : v < m) (h1 : Wk ss m a v x) (h2 : Wk ss m v b y) : Wk ss m a b (x + y) := by
  obtain ⟨f, h1⟩ := h1
  obtain ⟨g, h2⟩ := h2
  exact ⟨max f g + 1, .inr ⟨v, x, y, hv, wkF_more h1 (by omega), wkF_more h2 (by omega), rfl⟩⟩
theorem Wk.more (h : Wk ss m a b w) (hm : m ≤ m') : Wk ss m' a b w := by
  obtain ⟨f, h⟩ := h
  induction f generalizing a b w with
  | zero => exact ⟨0, h⟩
  | succ f ih =>
    rcases h with h | ⟨v, x, y, hv, h1, h2, rfl⟩
    · exact ih h
    · exact Wk.cat (by omega) (ih h1) (ih h2)
theorem Wk.turn (h : Wk ss m a b w) : Wk ss m b a w := by
  obtain ⟨f, h⟩ := h
  induction f generalizing a b w with
  | zero =>
    rcases h with ⟨rfl, rfl⟩ | h | h
    · exact Wk.nil ..
    · exact Wk.back h
    · exact Wk.to h
  | succ f ih =>
    rcases h with h | ⟨v, x, y, hv, h1, h2, rfl⟩
    · exact ih h
    · rw [Nat.add_comm]; exact Wk.cat hv (ih h2) (ih h1)
/-- Over one corner more. -/
theorem Wk.split (h : Wk ss (m + 1) a b w) : (∃ w', w' ≤ w ∧ Wk ss m a b w') ∨ ∃ x y, Wk ss m a m x ∧ Wk ss m m b y ∧ x + y ≤ w := by
  obtain ⟨f, h⟩ := h
  induction f generalizing a b w with
  | zero => exact .inl ⟨w, Nat.le_refl _, 0, h⟩
  | succ f ih =>
    rcases h with h | ⟨v, x, y, hv, h1, h2, rfl⟩
    · exact ih h
    · by_cases e : v = m
      · subst e
        rcases ih h1 with ⟨x', hx, h1⟩ | ⟨x1, x2, h1, h1', hx⟩ <;> rcases ih h2 with ⟨y', hy, h2⟩ | ⟨y1, y2, h2, h2', hy⟩
        · exact .inr ⟨x', y', h1, h2, by omega⟩
        · exact .inr ⟨x', y2, h1, h2', by omega⟩
        · exact .inr ⟨x1, y', h1, h2, by omega⟩
        · exact .inr ⟨x1, y2, h1, h2', by omega⟩
      · have hv' : v < m := by omega
        rcases ih h1 with ⟨x', hx, h1⟩ | ⟨x1, x2, h1, h1', hx⟩ <;> rcases ih h2 with ⟨y', hy, h2⟩ | ⟨y1, y2, h2, h2', hy⟩
        · exact .inl ⟨x' + y', by omega, Wk.cat hv' h1 h2⟩
        · exact .inr ⟨x' + y1, y2, Wk.cat hv' h1 h2, h2', by omega⟩
        · exact .inr ⟨x1, x2 + y', h1, Wk.cat hv' h1' h2, by omega⟩
        · exact .inr ⟨x1, y2, h1, h2', by omega⟩
theorem Wk.zero (h : Wk ss 0 a b w) : (a = b ∧ w = 0) ∨ (a, b, w) ∈ ss ∨ (b, a, w) ∈ ss := by
  obtain ⟨f, h⟩ := h
  induction f generalizing a b w with
  | zero => exact h
  | succ f ih =>
    rcases h with h | ⟨v, x, y, hv, _⟩
    · exact ih h
    · omega

/-- What is closed under streets. -/
def Shut (ss : List St) (r : Nat → Bool) : Prop := ∀ s ∈ ss, r s.1 = r s.2.1
theorem Wk.shut {r : Nat → Bool} (hr : Shut ss r) (h : Wk ss m a b w) : r a = r b := by
  obtain ⟨f, h⟩ := h
  induction f generalizing a b w with
  | zero =>
    rcases h with ⟨rfl, rfl⟩ | h | h
    · rfl
    · exact hr _ h
    · exact (hr _ h).symm
  | succ f ih =>
    rcases h with h | ⟨v, x, y, hv, h1, h2, rfl⟩
    · exact ih h
    · exact (ih h1).trans (ih h2)
end

/-- One street looked at: both its corners are reached if one is. -/
def rStep (r : Nat → Bool) (s : St) : Nat → Bool := if r s.1 || r s.2.1 then (fun i => r i || (i == s.1 || i == s.2.1)) else r
def sweep (ss : List St) (r : Nat → Bool) : Nat → Bool := ss.foldl rStep r
def sweeps (ss : List St) (r : Nat → Bool) : Nat → (Nat → Bool)
  | 0 => r
  | k + 1 => sweep ss (sweeps ss r k)
def startAt (c : Nat) : Nat → Bool := fun i => i == c
def reach (ss : List St) (c : Nat) : Nat → Bool := sweeps ss (startAt c) ss.length

section
variable {ss : List St} {r r' : Nat → Bool} {s : St} {n c : Nat}
theorem rStep_mono (r : Nat → Bool) (s : St) {i : Nat} (h : r i = true) : rStep r s i = true := by
  unfold rStep; split
  · simp [h]
  · exact h
theorem sweep_mono (ss : List St) (r : Nat → Bool) {i : Nat} (h : r i = true) : sweep ss r i = true := by
  unfold sweep
  induction ss generalizing r with
  | nil => exact h
  | cons s ss ih => exact ih _ (rStep_mono r s h)
theorem rStep_both (h : (r s.1 || r s.2.1) = true) : rStep r s s.1 = true ∧ rStep r s s.2.1 = true := by
  unfold rStep; rw [if_pos h]; simp
/-- A street whose corners are reached. -/
def doneS (r : Nat → Bool) (s : St) : Bool := r s.1 && r s.2.1
theorem doneS_mono (hr : ∀ i, r i = true → r' i = true) (h : doneS r s = true) : doneS r' s = true := by
  simp only [doneS, Bool.and_eq_true] at h ⊢
  exact ⟨hr _ h.1, hr _ h.2⟩
theorem sweep_done (hs : s ∈ ss) (h : (r s.1 || r s.2.1) = true) : doneS (sweep ss r) s = true := by
  unfold sweep
  induction ss generalizing r with
  | nil => cases hs
  | cons t ss ih =>
    rw [List.foldl_cons]
    rcases List.mem_cons.1 hs with rfl | hs
    · have h1 := rStep_both h
      exact doneS_mono (fun i hi => sweep_mono ss _ hi) (by simp [doneS, h1.1, h1.2])
    · refine ih hs ?_
      simp only [Bool.or_eq_true] at h ⊢
      rcases h with h | h
      · exact .inl (rStep_mono r t h)
      · exact .inr (rStep_mono r t h)
/-- How many streets are not done. -/
def undone (ss : List St) (r : Nat → Bool) : Nat := (ss.filter fun s => !doneS r s).length
theorem undone_le (ss : List St) (r : Nat → Bool) : undone ss r ≤ ss.length := List.length_filter_le _ _
theorem undone_mono (hr : ∀ i, r i = true → r' i = true) : undone ss r' ≤ undone ss r := by
  induction ss with
  | nil => exact Nat.le_refl _
  | cons t ss ih =>
    unfold undone at ih ⊢
    rw [List.filter_cons, List.filter_cons]
    by_cases h : doneS r t = true
    · rw [h, doneS_mono hr h]; simpa using ih
    · rw [show doneS r t = false by simpa using h]
      split <;> simp <;> omega
theorem undone_less (hr : ∀ i, r i = true → r' i = true) (hs : s ∈ ss) (h : doneS r s = false) (h' : doneS r' s = true) : undone ss r' + 1 ≤ undone ss r := by
  induction ss with
  | nil => cases hs
  | cons t ss ih =>
    have hm := undone_mono (ss := ss) hr
    unfold undone at ih hm ⊢
    rw [List.filter_cons, List.filter_cons]
    rcases List.mem_cons.1 hs with rfl | hs
    · rw [h, h']; simp; omega
    · have := ih hs
      by_cases e : doneS r t = true
      · rw [e, doneS_mono hr e]; simpa using this
      · rw [show doneS r t = false by simpa using e]
        split <;> simp <;> omega
theorem shut_sweep (h : Shut ss r) : sweep ss r = r := by
  have : ∀ ts : List St, (∀ s ∈ ts, s ∈ ss) → sweep ts r = r := by
    intro ts
    induction ts with
    | nil => intro _; rfl
    | cons t ts ih =>
      intro ht
      unfold sweep at ih ⊢
      rw [List.foldl_cons]
      have e : rStep r t = r := by
        unfold rStep
        split
        · rename_i h1
          have h2 := h t (ht t (by simp))
          rw [h2, Bool.or_self] at h1
          funext i
          by_cases e1 : i = t.1
          · subst e1; rw [h2, h1]; rfl
          · by_cases e2 : i = t.2.1
            · subst e2; rw [h1]; rfl
            · simp [e1, e2]
        · rfl
      rw [e]
      exact ih (fun s hs => ht s (List.mem_cons_of_mem _ hs))
  exact this ss (fun s hs => hs)
theorem sweeps_or (ss : List St) (r : Nat → Bool) (k : Nat) : Shut ss (sweeps ss r k) ∨ undone ss (sweeps ss r k) + k ≤ ss.length := by
  induction k with
  | zero => exact .inr (undone_le _ _)
  | succ k ih =>
    by_cases hS : Shut ss (sweeps ss r k)
    · left
      show Shut ss (sweep ss (sweeps ss r k))
      rw [shut_sweep hS]; exact hS
    · right
      have h1 := ih.resolve_left hS
      obtain ⟨s, hs⟩ := Classical.not_forall.1 hS
      obtain ⟨hs, hne⟩ := Classical.not_imp.1 hs
      have h2 : doneS (sweeps ss r k) s = false := by
        unfold doneS
        cases h1 : sweeps ss r k s.1 <;> cases h2 : sweeps ss r k s.2.1 <;> simp_all
      have h3 : (sweeps ss r k s.1 || sweeps ss r k s.2.1) = true := by
        cases h1 : sweeps ss r k s.1 <;> cases h2 : sweeps ss r k s.2.1 <;> simp_all
      have := undone_less (ss := ss) (r' := sweep ss (sweeps ss r k)) (fun i hi => sweep_mono ss (sweeps ss r k) hi) hs h2 (sweep_done hs h3)
      show undone ss (sweep ss (sweeps ss r k)) + (k + 1) ≤ ss.length
      omega
/-- Behind as many sweeps as streets all is reached. -/
theorem reach_shut (ss : List St) (c : Nat) : Shut ss (reach ss c) := by
  rcases sweeps_or ss (startAt c) ss.length with h | h
  · exact h
  · have h0 : undone ss (sweeps ss (startAt c) ss.length) = 0 := by omega
    intro s hs
    have h1 : doneS (sweeps ss (startAt c) ss.length) s = true := by
      unfold undone at h0
      have h2 := List.eq_nil_of_length_eq_zero h0
      rw [List.filter_eq_nil_iff] at h2
      simpa using h2 s hs
    simp only [doneS, Bool.and_eq_true] at h1
    unfold reach
    rw [h1.1, h1.2]
theorem reach_start (ss : List St) (c : Nat) : reach ss c c = true := by
  have : ∀ k, sweeps ss (startAt c) k c = true := fun k => by
    induction k with
    | zero => simp [sweeps, startAt]
    | succ k ih => exact sweep_mono ss _ ih
  exact this _

/-- The lengths of what is done. -/
def pot (ss : List St) (r : Nat → Bool) : Nat := ((ss.filter (doneS r)).map fun s => s.2.2).sum
def totL (ss : List St) : Nat := (ss.map fun s => s.2.2).sum
theorem pot_le (ss : List St) (r : Nat → Bool) : pot ss r ≤ totL ss := by
  induction ss with
  | nil => exact Nat.le_refl _
  | cons t ss ih =>
    unfold pot totL at ih ⊢
    rw [List.filter_cons]
    split <;> simp <;> omega
theorem pot_mono (hr : ∀ i, r i = true → r' i = true) : pot ss r ≤ pot ss r' := by
  induction ss with
  | nil => exact Nat.le_refl _
  | cons t ss ih =>
    unfold pot at ih ⊢
    rw [List.filter_cons, List.filter_cons]
    by_cases h : doneS r t = true
    · rw [h, doneS_mono hr h]; simpa using ih
    · have h' : doneS r t = false := by simpa using h
      by_cases h2 : doneS r' t = true
      · rw [h', h2]; simp; omega
      · rw [h', show doneS r' t = false by simpa using h2]; simpa using ih
theorem pot_more (hr : ∀ i, r i = true → r' i = true) (hs : s ∈ ss) (h : doneS r s = false) (h' : doneS r' s = true) : pot ss r + s.2.2 ≤ pot ss r' := by
  induction ss with
  | nil => cases hs
  | cons t ss ih =>
    have hm := pot_mono (ss := ss) hr
    unfold pot at ih hm ⊢
    rw [List.filter_cons, List.filter_cons]
    rcases List.mem_cons.1 hs with rfl | hs
    · rw [h, h']; simp; omega
    · have := ih hs
      by_cases e : doneS r t = true
      · rw [e, doneS_mono hr e]; simp; omega
      · have e' : doneS r t = false := by simpa using e
        by_cases h2 : doneS r' t = true
        · rw [e', h2]; simp; omega
        · rw [e', show doneS r' t = false by simpa using h2]; simpa using this
/-- Each corner that is reached is reached by a walk over what is done. -/
def Led (ss : List St) (n c : Nat) (r : Nat → Bool) : Prop := ∀ i, r i = true → ∃ w, Wk ss n c i w ∧ w ≤ pot ss r
theorem Led.step (hn : ∀ s ∈ ss, s.1 < n ∧ s.2.1 < n) (h : Led ss n c r) (hs : s ∈ ss) : Led ss n c (rStep r s) := by
  by_cases h1 : (r s.1 || r s.2.1) = true
  · have hb := rStep_both h1
    have hmono : ∀ i, r i = true → rStep r s i = true := fun i hi => rStep_mono r s hi
    have hpm := pot_mono (ss := ss) hmono
    by_cases hd : doneS r s = true
    · intro i hi
      have : r i = true := by
        simp only [doneS, Bool.and_eq_true] at hd
        unfold rStep at hi
        rw [if_pos h1] at hi
        simp only [Bool.or_eq_true, beq_iff_eq] at hi
        rcases hi with hi | rfl | rfl
        · exact hi
        · exact hd.1
        · exact hd.2
      obtain ⟨w, h2, h3⟩ := h i this
      exact ⟨w, h2, by omega⟩
    · have hd' : doneS r s = false := by simpa using hd
      have hp := pot_more hmono hs hd' (by simp [doneS, hb.1, hb.2])
      intro i hi
      have hi2 := hi
      unfold rStep at hi2
      rw [if_pos h1] at hi2
      simp only [Bool.or_eq_true, beq_iff_eq] at hi2 h1
      have hmem : (s.1, s.2.1, s.2.2) ∈ ss := hs
      rcases hi2 with hi2 | hi2
      · obtain ⟨w, h2, h3⟩ := h i hi2
        exact ⟨w, h2, by omega⟩
      · rcases h1 with h1 | h1
        · obtain ⟨w, h2, h3⟩ := h _ h1
          rcases hi2 with rfl | rfl
          · exact ⟨w, h2, by omega⟩
          · exact ⟨w + s.2.2, Wk.cat (hn s hs).1 h2 (Wk.to hmem), by omega⟩
        · obtain ⟨w, h2, h3⟩ := h _ h1
          rcases hi2 with rfl | rfl
          · exact ⟨w + s.2.2, Wk.cat (hn s hs).2 h2 (Wk.back hmem), by omega⟩
          · exact ⟨w, h2, by omega⟩
  · unfold rStep
    rw [if_neg h1]; exact h
theorem Led.sweep (hn : ∀ s ∈ ss, s.1 < n ∧ s.2.1 < n) (h : Led ss n c r) : Led ss n c (sweep ss r) := by
  have : ∀ (ts : List St) (r : Nat → Bool), (∀ s ∈ ts, s ∈ ss) → Led ss n c r → Led ss n c (ts.foldl rStep r) := by
    intro ts
    induction ts with
    | nil => intro r _ h; exact h
    | cons t ts ih => intro r ht h; exact ih _ (fun s hs => ht s (List.mem_cons_of_mem _ hs)) (h.step hn (ht t (by simp)))
  exact this ss r (fun s hs => hs) h
theorem reach_led (hn : ∀ s ∈ ss, s.1 < n ∧ s.2.1 < n) (c : Nat) : Led ss n c (reach ss c) := by
  have : ∀ k, Led ss n c (sweeps ss (startAt c) k) := fun k => by
    induction k with
    | zero => intro i hi; have : i = c := by simpa [sweeps, startAt] using hi
              subst this; exact ⟨0, Wk.nil .., Nat.zero_le _⟩
    | succ k ih => exact ih.sweep hn
  exact this _
/-- Reached is reached by a walk, and by one over no street twice. -/
theorem reach_iff (hn : ∀ s ∈ ss, s.1 < n ∧ s.2.1 < n) (c i : Nat) : reach ss c i = true ↔ ∃ w, Wk ss n c i w := by
  constructor
  · intro h; obtain ⟨w, h, _⟩ := reach_led hn c i h; exact ⟨w, h⟩
  · rintro ⟨w, h⟩
    rw [← h.shut (reach_shut ss c)]; exact reach_start ss c
theorem short_walk (hn : ∀ s ∈ ss, s.1 < n ∧ s.2.1 < n) {a b w : Nat} (h : Wk ss n a b w) : ∃ w', Wk ss n a b w' ∧ w' ≤ totL ss := by
  obtain ⟨w', h1, h2⟩ := reach_led hn a b ((reach_iff hn a b).2 ⟨w, h⟩)
  exact ⟨w', h1, Nat.le_trans h2 (pot_le _ _)⟩
end

/-- The least ways. -/
def IsDist (n : Nat) (ss : List St) (D : Nat → Nat → Int) : Prop := ∀ i k, i < n → k < n → -1 ≤ D i k ∧ (0 ≤ D i k → ∃ w : Nat, D i k = (w : Int) ∧ Wk ss n i k w) ∧ ∀ w, Wk ss n i k w → 0 ≤ D i k ∧ D i k ≤ (w : Int)
theorem IsDist.one {n : Nat} {ss : List St} {D E : Nat → Nat → Int} (h : IsDist n ss D) (g : IsDist n ss E) {i k : Nat} (hi : i < n) (hk : k < n) : D i k = E i k := by
  obtain ⟨h1, h2, h3⟩ := h i k hi hk
  obtain ⟨g1, g2, g3⟩ := g i k hi hk
  by_cases hd : 0 ≤ D i k
  · obtain ⟨w, hw, hk1⟩ := h2 hd
    obtain ⟨e1, e2⟩ := g3 w hk1
    obtain ⟨v, hv, hk2⟩ := g2 e1
    have := (h3 v hk2).2
    omega
  · by_cases he : 0 ≤ E i k
    · obtain ⟨v, hv, hk2⟩ := g2 he
      have := (h3 v hk2).1
      omega
    · omega
end Go.Proofs.Ytonnffilcmlodaa
