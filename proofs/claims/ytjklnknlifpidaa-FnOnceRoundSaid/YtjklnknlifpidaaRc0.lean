/- Pairs of corners, plain: the least sum of ways. No condition. -/
import Derived.Test.YtjklnknlifpidaaN14
namespace Go.Proofs.Ytjklnknlifpidaa
open Go.RowKit

def bestS (b x : Int) : Int := if b < 0 ∨ x < b then x else b
def dropAt (r : List Nat) (j : Nat) : List Nat := r.take j ++ r.drop (j + 1)
def pairTo (D : Nat → Nat → Int) (F : List Nat → Int) (x : Nat) (r : List Nat) : Nat → Int
  | 0 => -1
  | j + 1 => bestS (pairTo D F x r j) (D x (r.getD j 0) + F (dropAt r j))
/-- The least sum over m pairs. -/
def pairF (D : Nat → Nat → Int) : Nat → List Nat → Int
  | 0, _ => 0
  | m + 1, l => match l with
    | [] => 0
    | x :: r => pairTo D (pairF D m) x r r.length
def pairMin (D : Nat → Nat → Int) (F : List Nat → Int) (x : Nat) (r : List Nat) : Nat → Int
  | 0 => 281
  | j + 1 => minI (pairMin D F x r j) (D x (r.getD j 0) + F (dropAt r j))
theorem dropAt_len {r : List Nat} {j : Nat} (h : j < r.length) : (dropAt r j).length + 1 = r.length := by
  unfold dropAt; rw [List.length_append, List.length_take, List.length_drop]; omega
theorem dropAt_lt {n : Nat} {r : List Nat} {j : Nat} (h : ∀ y ∈ r, y < n) : ∀ y ∈ dropAt r j, y < n := fun y hy => by
  unfold dropAt at hy
  rcases List.mem_append.1 hy with hy | hy
  · exact h y (List.mem_of_mem_take hy)
  · exact h y (List.mem_of_mem_drop hy)
section
variable {n : Nat} {D : Nat → Nat → Int} {x : Nat} {r : List Nat} {F : List Nat → Int} {M : Int}
theorem pairTo_bd (hF : ∀ j, j < r.length → 0 ≤ D x (r.getD j 0) + F (dropAt r j) ∧ D x (r.getD j 0) + F (dropAt r j) ≤ M) : ∀ j, j ≤ r.length → (j = 0 ∧ pairTo D F x r j = -1) ∨ (0 < j ∧ 0 ≤ pairTo D F x r j ∧ pairTo D F x r j ≤ M)
  | 0, _ => .inl ⟨rfl, rfl⟩
  | j + 1, h => by
    have h1 := pairTo_bd hF j (by omega)
    have h2 := hF j (by omega)
    refine .inr ⟨by omega, ?_⟩
    show 0 ≤ bestS _ _ ∧ bestS _ _ ≤ M
    unfold bestS
    split <;> omega
theorem pairMin_to (hF : ∀ j, j < r.length → 0 ≤ D x (r.getD j 0) + F (dropAt r j) ∧ D x (r.getD j 0) + F (dropAt r j) ≤ 281) : ∀ j, j ≤ r.length → pairMin D F x r j = if j = 0 then 281 else pairTo D F x r j
  | 0, _ => rfl
  | j + 1, h => by
    have h1 := pairMin_to hF j (by omega)
    have h2 := hF j (by omega)
    have h3 := pairTo_bd hF j (by omega)
    rw [if_neg (by omega)]
    show minI (pairMin D F x r j) _ = bestS (pairTo D F x r j) _
    rw [h1]
    unfold minI bestS
    by_cases e : j = 0
    · subst e
      rw [if_pos rfl]
      rcases h3 with ⟨_, h3⟩ | ⟨h3, _⟩
      · rw [h3]
        split <;> split <;> omega
      · omega
    · rw [if_neg e]
      rcases h3 with ⟨h3, _⟩ | ⟨_, h3, h4⟩
      · omega
      · by_cases e2 : D x (r.getD j 0) + F (dropAt r j) < pairTo D F x r j
        · rw [if_pos e2, if_pos (.inr e2)]
        · rw [if_neg e2, if_neg (by omega)]
theorem pairF_bd (hD : ∀ i k, i < n → k < n → 0 ≤ D i k ∧ D i k ≤ 140) : ∀ (m : Nat) (l : List Nat), l.length = 2 * m → (∀ y ∈ l, y < n) → 0 ≤ pairF D m l ∧ pairF D m l ≤ 140 * m
  | 0, _, _, _ => by simp [pairF]
  | m + 1, l, hl, hn => by
    cases l with
    | nil => simp at hl
    | cons x r =>
      simp only [List.length_cons] at hl
      have hx := hn x (by simp)
      have hr : ∀ y ∈ r, y < n := fun y hy => hn y (by simp [hy])
      have hF : ∀ j, j < r.length → 0 ≤ D x (r.getD j 0) + pairF D m (dropAt r j) ∧ D x (r.getD j 0) + pairF D m (dropAt r j) ≤ 140 * ((m + 1 : Nat) : Int) := fun j hj => by
        have h1 := pairF_bd hD m (dropAt r j) (by have := dropAt_len hj; omega) (dropAt_lt hr)
        have h2 : r.getD j 0 < n := by rw [List.getD, List.getElem?_eq_getElem hj]; exact hr _ (List.getElem_mem hj)
        have h3 := hD x _ hx h2
        push_cast; omega
      have h4 := pairTo_bd hF r.length (Nat.le_refl _)
      show 0 ≤ pairTo D (pairF D m) x r r.length ∧ pairTo D (pairF D m) x r r.length ≤ _
      rcases h4 with ⟨h4, _⟩ | ⟨_, h4⟩
      · omega
      · exact h4
end
end Go.Proofs.Ytjklnknlifpidaa
