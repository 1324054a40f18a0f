/- The least of the costs over hubs, plain. No condition. -/
import Derived.Test.YtmbpcilgjolaeaaUj
namespace Go.Proofs.Ytmbpcilgjolaeaa
open Go.RowKit

/-- The least over the hubs below h. -/
def minH (D : Nat → Nat → Int) : Nat → (Nat → Nat → Int)
  | 0 => hubD D 0
  | h + 1 => fun i k => minI (minH D h i k) (hubD D (h + 1) i k)
def partH (F G : Nat → Nat → Int) (i k a b : Nat) : Int := if a < i ∨ (a = i ∧ b < k) then minI (F a b) (G a b) else F a b
section
variable {n : Nat} {D F G : Nat → Nat → Int}
theorem partH_here (i k : Nat) : partH F G i k i k = F i k := by unfold partH; rw [if_neg (by omega)]
theorem partH_put (i k a b : Nat) : partH F G i (k + 1) a b = upd (partH F G i k) i k (minI (F i k) (G i k)) a b := by
  unfold upd
  by_cases e : a = i ∧ b = k
  · rw [if_pos e, partH, if_pos (by omega), e.1, e.2]
  · rw [if_neg e]
    unfold partH
    by_cases e2 : a < i ∨ (a = i ∧ b < k)
    · rw [if_pos e2, if_pos (by omega)]
    · rw [if_neg e2, if_neg (by omega)]
theorem partH_row (i a b : Nat) (hb : b < n) : partH F G (i + 1) 0 a b = partH F G i n a b := by
  unfold partH
  by_cases e : a < i ∨ (a = i ∧ b < n)
  · rw [if_pos e, if_pos (by omega)]
  · rw [if_neg e, if_neg (by omega)]
theorem partH_all (a b : Nat) (ha : a < n) : minI (F a b) (G a b) = partH F G n 0 a b := by unfold partH; rw [if_pos (by omega)]
theorem partH_none (a b : Nat) : partH F G 0 0 a b = F a b := by unfold partH; rw [if_neg (by omega)]
theorem minI_le (a b : Int) : minI a b ≤ a ∧ minI a b ≤ b ∧ (minI a b = a ∨ minI a b = b) := by unfold minI; split <;> omega
theorem minH_le (i k : Nat) : ∀ (h h' : Nat), h' ≤ h → minH D h i k ≤ hubD D h' i k
  | 0, h', e => by rw [show h' = 0 by omega]; exact Int.le_refl _
  | h + 1, h', e => by
    have h1 := minI_le (minH D h i k) (hubD D (h + 1) i k)
    show minI _ _ ≤ _
    by_cases e2 : h' = h + 1
    · subst e2; exact h1.2.1
    · have := minH_le i k h h' (by omega)
      omega
theorem minH_is (i k : Nat) : ∀ h : Nat, ∃ h', h' ≤ h ∧ minH D h i k = hubD D h' i k
  | 0 => ⟨0, Nat.le_refl _, rfl⟩
  | h + 1 => by
    obtain ⟨h', e, h2⟩ := minH_is i k h
    rcases (minI_le (minH D h i k) (hubD D (h + 1) i k)).2.2 with e3 | e3
    · exact ⟨h', by omega, by show minI _ _ = _; rw [e3, h2]⟩
    · exact ⟨h + 1, Nat.le_refl _, by show minI _ _ = _; exact e3⟩
theorem hubD_bd (h : RM n D) {m : Nat} (hm : m < n) : Bd n (hubD D m) := fun i k hi hk => by
  have h1 := h.lo i m hi hm
  have h2 := h.hi i m hi hm
  have h3 := h.lo m k hm hk
  have h4 := h.hi m k hm hk
  unfold hubD
  split <;> omega
theorem minH_bd (h : RM n D) {m : Nat} (hm : m < n) : Bd n (minH D m) := fun i k hi hk => by
  obtain ⟨h', e, h2⟩ := minH_is (D := D) i k m
  rw [h2]; exact hubD_bd h (by omega) i k hi hk
theorem minH_more (h : RM n D) {m : Nat} (hm : n = m + 1) : AtMost n (fw7 n D) (minH D m) := fun i k hi hk => by
  obtain ⟨h', e, h2⟩ := minH_is (D := D) i k m
  rw [h2]; exact hub_most h (by omega) i k hi hk
theorem hubD_self (i m : Nat) : hubD D m i i = 0 := by unfold hubD; rw [if_pos rfl]
theorem hubD_ne {i k m : Nat} (e : i ≠ k) : hubD D m i k = D i m + D m k := by unfold hubD; rw [if_neg e]
theorem minH_three (h : RM n D) {m : Nat} (hm : n = m + 1) (h3 : n ≤ 3) {i k : Nat} (hi : i < n) (hk : k < n) : fw7 n D i k = minH D m i k := by
  refine fw_is h (fun i j k hi hj hk => ?_) (fun i k hi hk => ?_) (fun G hG hle i k hi hk => ?_) hi hk
  · obtain ⟨x, x1, x2⟩ := minH_is (D := D) i j m
    obtain ⟨y, y1, y2⟩ := minH_is (D := D) j k m
    have hx := hubD_bd h (show x < n by omega) i j hi hj
    have hy := hubD_bd h (show y < n by omega) j k hj hk
    rw [x2, y2]
    by_cases e1 : i = k
    · subst e1
      have := minH_le (D := D) i i m 0 (by omega)
      rw [hubD_self] at this
      omega
    by_cases e2 : i = j
    · subst e2
      have := minH_le (D := D) i k m y y1
      rw [hubD_self]; omega
    by_cases e3 : j = k
    · subst e3
      have := minH_le (D := D) i j m x x1
      rw [hubD_self]; omega
    have g1 := minH_le (D := D) i k m k (by omega)
    have g2 := minH_le (D := D) i k m j (by omega)
    rw [hubD_ne e1] at g1 g2
    rw [hubD_ne e2, hubD_ne e3]
    have d1 := h.dg k hk
    have d2 := h.dg i hi
    have d3 := h.dg j hj
    have l1 := h.lo k j hk hj
    have l2 := h.lo j i hj hi
    have l3 := h.lo i j hi hj
    have l4 := h.lo j k hj hk
    have l5 := h.lo i k hi hk
    have hxx : x = i ∨ x = j ∨ x = k := by omega
    have hyy : y = i ∨ y = j ∨ y = k := by omega
    rcases hxx with rfl | rfl | rfl <;> rcases hyy with rfl | rfl | rfl <;> omega
  · by_cases e : i = k
    · subst e
      have := minH_le (D := D) i i m 0 (by omega)
      rw [hubD_self] at this
      rw [h.dg i hi]; exact this
    · have := minH_le (D := D) i k m i (by omega)
      rw [hubD_ne e, h.dg i hi] at this
      omega
  · obtain ⟨x, x1, x2⟩ := minH_is (D := D) i k m
    rw [x2]
    by_cases e : i = k
    · subst e
      rw [hubD_self]
      have := hle i i hi hi
      rw [h.dg i hi] at this
      exact this
    · rw [hubD_ne e]
      have a1 := hG i x k hi (by omega) hk
      have a2 := hle i x hi (by omega)
      have a3 := hle x k (by omega) hk
      omega
end
end Go.Proofs.Ytmbpcilgjolaeaa
