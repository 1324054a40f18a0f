/- Towns, plain: the least ways, with a number beyond all for none. No condition. -/
import Derived.Test.YtjklnknlifpidaaN1
namespace Go.Proofs.Ytjklnknlifpidaa
open Go.RowKit

/-- The least ways over corners below m, at the places 'dn' over m too; 281 where none is known. -/
def FwE (n : Nat) (ss : List St) (m : Nat) (dn : Nat → Nat → Prop) (E : Nat → Nat → Int) : Prop :=
  ∀ i k, i < n → k < n → 0 ≤ E i k ∧ E i k ≤ 281 ∧ (E i k < 281 → ∃ w : Nat, E i k = (w : Int) ∧ Wk ss n i k w) ∧
    (∀ w, Wk ss m i k w → E i k ≤ (w : Int)) ∧ (dn i k → ∀ w, Wk ss (m + 1) i k w → E i k ≤ (w : Int))
def minI (a b : Int) : Int := if b < a then b else a
section
variable {n m i k j : Nat} {ss : List St} {dn dn' : Nat → Nat → Prop} {E : Nat → Nat → Int}
theorem FwE.put (h : FwE n ss m dn E) (hm : m < n) (hi : i < n) (hk : k < n) (hd : ∀ i' k', dn' i' k' → dn i' k' ∨ (i' = i ∧ k' = k)) : FwE n ss m dn' (upd E i k (minI (E i k) (E i m + E m k))) := by
  obtain ⟨a1, a2, a3, a4, a5⟩ := h i k hi hk
  obtain ⟨b1, b2, b3, b4, b5⟩ := h i m hi hm
  obtain ⟨c1, c2, c3, c4, c5⟩ := h m k hm hk
  intro i' k' hi' hk'
  unfold upd
  by_cases e : i' = i ∧ k' = k
  · obtain ⟨rfl, rfl⟩ := e
    rw [if_pos ⟨rfl, rfl⟩]
    unfold minI
    have hlow : ∀ w, Wk ss (m + 1) i' k' w → (if E i' m + E m k' < E i' k' then E i' m + E m k' else E i' k') ≤ (w : Int) := by
      intro w hw
      rcases hw.split with ⟨w', hw', h1⟩ | ⟨x, y, h1, h2, h3⟩
      · have := a4 w' h1
        split <;> omega
      · have g1 := b4 x h1
        have g2 := c4 y h2
        split <;> omega
    refine ⟨by split <;> omega, by split <;> omega, fun hlt => ?_, fun w hw => ?_, fun _ => hlow⟩
    · by_cases hc : E i' m + E m k' < E i' k'
      · rw [if_pos hc] at hlt ⊢
        obtain ⟨x, hx, h1⟩ := b3 (by omega)
        obtain ⟨y, hy, h2⟩ := c3 (by omega)
        exact ⟨x + y, by rw [hx, hy]; push_cast; rfl, Wk.cat hm h1 h2⟩
      · rw [if_neg hc] at hlt ⊢
        exact a3 hlt
    · exact hlow w (hw.more (Nat.le_succ _))
  · rw [if_neg e]
    obtain ⟨d1, d2, d3, d4, d5⟩ := h i' k' hi' hk'
    refine ⟨d1, d2, d3, d4, fun hh => ?_⟩
    rcases hd i' k' hh with h1 | h1
    · exact d5 h1
    · exact absurd h1 e
theorem FwE.next (h : FwE n ss m dn E) (hd : ∀ i k, i < n → k < n → dn i k) : FwE n ss (m + 1) (fun _ _ => False) E := fun i k hi hk => by
  obtain ⟨d1, d2, d3, d4, d5⟩ := h i k hi hk
  exact ⟨d1, d2, d3, d5 (hd i k hi hk), fun h => h.elim⟩
theorem FwE.less (h : FwE n ss m dn E) (hd : ∀ i k, i < n → k < n → dn' i k → dn i k) : FwE n ss m dn' E := fun i k hi hk => by
  obtain ⟨d1, d2, d3, d4, d5⟩ := h i k hi hk
  exact ⟨d1, d2, d3, d4, fun hh => d5 (hd i k hi hk hh)⟩
theorem FwE.done (h : FwE n ss n dn E) (hc : ∀ i k, i < n → k < n → ∃ w, Wk ss n i k w ∧ w ≤ 140) : IsDist n ss E := fun i k hi hk => by
  obtain ⟨d1, d2, d3, d4, d5⟩ := h i k hi hk
  obtain ⟨w, hw, hb⟩ := hc i k hi hk
  have := d4 w hw
  exact ⟨by omega, fun _ => d3 (by omega), fun w hw => ⟨d1, d4 w hw⟩⟩

/-- The streets below j are in. -/
def SxE (n : Nat) (ss : List St) (j : Nat) (E : Nat → Nat → Int) : Prop :=
  (∀ i k, i < n → k < n → 0 ≤ E i k ∧ E i k ≤ 281 ∧ E i k = E k i ∧ (E i k < 281 → ∃ w : Nat, E i k = (w : Int) ∧ Wk ss n i k w) ∧ (i = k → E i k = 0)) ∧
  ∀ q (hq : q < ss.length), q < j → ∀ a b l, ss[q] = (a, b, l) → E a b ≤ (l : Int)
theorem SxE.start (n : Nat) (ss : List St) : SxE n ss 0 (fun i k => if i = k then 0 else 281) := by
  refine ⟨fun i k _ _ => ?_, fun q _ h => by omega⟩
  by_cases e : i = k
  · subst e
    simp only [if_true]
    exact ⟨by omega, by omega, trivial, fun _ => ⟨0, rfl, Wk.nil _ _ _⟩, fun _ => trivial⟩
  · have e' : ¬ k = i := fun h => e h.symm
    simp only [if_neg e, if_neg e']
    exact ⟨by omega, by omega, trivial, fun h => by omega, fun h => absurd h e⟩
theorem SxE.put {a b l : Nat} (h : SxE n ss j E) (hj : j < ss.length) (hs : ss[j] = (a, b, l)) (ha : a < n) (hb : b < n) (hlt : ∀ s ∈ ss, s.1 < n ∧ s.2.1 < n) :
    SxE n ss (j + 1) (upd (upd E a b (minI (E a b) l)) b a (minI (E a b) l)) := by
  obtain ⟨h1, h2⟩ := h
  obtain ⟨a1, a2, a3, a4, a5⟩ := h1 a b ha hb
  have hm : (a, b, l) ∈ ss := by rw [← hs]; exact List.getElem_mem hj
  have hv : 0 ≤ minI (E a b) l ∧ minI (E a b) l ≤ E a b ∧ minI (E a b) l ≤ l := by unfold minI; split <;> omega
  have hw : minI (E a b) l < 281 → ∃ w : Nat, minI (E a b) l = (w : Int) ∧ Wk ss n a b w := by
    unfold minI
    split
    · exact fun _ => ⟨l, rfl, Wk.to hm⟩
    · exact a4
  have hval : ∀ i k, upd (upd E a b (minI (E a b) l)) b a (minI (E a b) l) i k = if (i = b ∧ k = a) ∨ (i = a ∧ k = b) then minI (E a b) l else E i k := by
    intro i k
    unfold upd
    by_cases e1 : i = b ∧ k = a
    · rw [if_pos e1, if_pos (.inl e1)]
    · rw [if_neg e1]
      by_cases e2 : i = a ∧ k = b
      · rw [if_pos e2, if_pos (.inr e2)]
      · rw [if_neg e2, if_neg (fun h => h.elim e1 e2)]
  refine ⟨fun i k hi hk => ?_, fun q hq hqj a' b' l' hs' => ?_⟩
  · rw [hval, hval]
    obtain ⟨d1, d2, d3, d4, d5⟩ := h1 i k hi hk
    by_cases e : (i = b ∧ k = a) ∨ (i = a ∧ k = b)
    · have e' : (k = b ∧ i = a) ∨ (k = a ∧ i = b) := by rcases e with ⟨x, y⟩ | ⟨x, y⟩; exact .inr ⟨y, x⟩; exact .inl ⟨y, x⟩
      rw [if_pos e, if_pos e']
      refine ⟨hv.1, by omega, rfl, fun hl => ?_, fun hik => ?_⟩
      · obtain ⟨w, hw1, hw2⟩ := hw hl
        rcases e with ⟨rfl, rfl⟩ | ⟨rfl, rfl⟩
        · exact ⟨w, hw1, hw2.turn⟩
        · exact ⟨w, hw1, hw2⟩
      · have hab : a = b := by rcases e with ⟨x, y⟩ | ⟨x, y⟩ <;> omega
        have := a5 hab
        omega
    · have e' : ¬ ((k = b ∧ i = a) ∨ (k = a ∧ i = b)) := fun h => e (by rcases h with ⟨x, y⟩ | ⟨x, y⟩; exact .inr ⟨y, x⟩; exact .inl ⟨y, x⟩)
      rw [if_neg e, if_neg e']
      exact ⟨d1, d2, d3, d4, d5⟩
  · rw [hval]
    have hs2 := hlt _ (List.getElem_mem hq)
    rw [hs'] at hs2
    by_cases e : (a' = b ∧ b' = a) ∨ (a' = a ∧ b' = b)
    · rw [if_pos e]
      by_cases eq : q = j
      · subst eq
        rw [hs] at hs'
        injection hs' with g1 g2
        injection g2 with g2 g3
        omega
      · have := h2 q hq (by omega) a' b' l' hs'
        rcases e with ⟨rfl, rfl⟩ | ⟨rfl, rfl⟩
        · have h3 := (h1 a' b' hs2.1 hs2.2).2.2.1
          omega
        · omega
    · rw [if_neg e]
      by_cases eq : q = j
      · subst eq
        rw [hs] at hs'
        injection hs' with g1 g2
        injection g2 with g2 g3
        exact absurd (.inr ⟨g1.symm, g2.symm⟩) e
      · exact h2 q hq (by omega) a' b' l' hs'
theorem SxE.fw (h : SxE n ss ss.length E) : FwE n ss 0 (fun _ _ => False) E := fun i k hi hk => by
  obtain ⟨h1, h2⟩ := h
  obtain ⟨d1, d2, d3, d4, d5⟩ := h1 i k hi hk
  refine ⟨d1, d2, d4, fun w hw => ?_, fun h => h.elim⟩
  rcases hw.zero with ⟨h, hw⟩ | h | h
  · subst hw; rw [d5 h]; exact Int.le_refl _
  · obtain ⟨q, hq, hs⟩ := List.getElem_of_mem h
    exact h2 q hq hq _ _ _ hs
  · obtain ⟨q, hq, hs⟩ := List.getElem_of_mem h
    rw [d3]
    exact h2 q hq hq _ _ _ hs
end

theorem totL_le {ss : List St} (h : ∀ s ∈ ss, s.2.2 ≤ 20) : totL ss ≤ 20 * ss.length := by
  induction ss with
  | nil => simp [totL]
  | cons s ss ih =>
    have h1 := h s (by simp)
    have h2 := ih (fun t ht => h t (List.mem_cons_of_mem _ ht))
    simp only [totL, List.map_cons, List.sum_cons, List.length_cons] at h2 ⊢
    omega
/-- In a town there is a short way between any two corners. -/
theorem town_short {n : Nat} {ss : List St} (hn : ∀ s ∈ ss, s.1 < n ∧ s.2.1 < n) (hl : ∀ s ∈ ss, s.2.2 ≤ 20) (h7 : ss.length ≤ 7) (hr : ∀ i, i < n → reach ss 0 i = true) {i k : Nat} (hi : i < n) (hk : k < n) : ∃ w, Wk ss n i k w ∧ w ≤ 140 := by
  obtain ⟨x, hx⟩ := (reach_iff hn 0 i).1 (hr i hi)
  obtain ⟨y, hy⟩ := (reach_iff hn 0 k).1 (hr k hk)
  obtain ⟨w, hw, hb⟩ := short_walk hn (Wk.cat (show 0 < n by omega) hx.turn hy)
  have := totL_le hl
  exact ⟨w, hw, by omega⟩
end Go.Proofs.Ytjklnknlifpidaa
