/- Odd corners are even in number, plain. No condition. -/
import Derived.Test.YtjklnknlifpidaaN9
namespace Go.Proofs.Ytjklnknlifpidaa
open Go.RowKit

section
theorem odd_count (f : Nat → Nat) (n : Nat) : (((List.range n).filter fun i => f i % 2 == 1).length) % 2 = (((List.range n).map f).sum) % 2 := by
  induction n with
  | zero => rfl
  | succ n ih =>
    rw [List.range_succ, List.filter_append, List.length_append, List.map_append, List.sum_append]
    by_cases h : f n % 2 = 1
    · simp [h]; omega
    · simp [h]; omega
theorem sum_one (n a : Nat) (h : a < n) : ((List.range n).map fun i => if a = i then 1 else 0).sum = 1 := by
  induction n with
  | zero => omega
  | succ n ih =>
    rw [List.range_succ, List.map_append, List.sum_append]
    by_cases h2 : a = n
    · subst h2
      have : ∀ m, m ≤ a → ((List.range m).map fun i => if a = i then 1 else 0).sum = 0 := by
        intro m
        induction m with
        | zero => intro _; rfl
        | succ m ihm =>
          intro hm
          rw [List.range_succ, List.map_append, List.sum_append, ihm (by omega)]
          simp; omega
      rw [this a (Nat.le_refl _)]; simp
    · rw [ih (by omega)]; simp [h2]
theorem sum_add (f g : Nat → Nat) (l : List Nat) : (l.map fun i => f i + g i).sum = (l.map f).sum + (l.map g).sum := by
  induction l with
  | nil => rfl
  | cons a l ih => simp only [List.map_cons, List.sum_cons, ih]; omega
theorem deg_sum {n : Nat} {ss : List St} (h : ∀ s ∈ ss, s.1 < n ∧ s.2.1 < n) : ((List.range n).map (degT ss)).sum = 2 * ss.length := by
  induction ss with
  | nil =>
    have : ∀ l : List Nat, (l.map (degT [])).sum = 0 := fun l => by
      induction l with
      | nil => rfl
      | cons a l ih => rw [List.map_cons, List.sum_cons, ih]; rfl
    rw [this]; rfl
  | cons s ss ih =>
    have h1 := h s List.mem_cons_self
    have e : (List.range n).map (degT (s :: ss)) = (List.range n).map fun i => ends1 i s + degT ss i := List.map_congr_left fun i _ => by simp [degT]
    rw [e, sum_add, ih (fun t ht => h t (List.mem_cons_of_mem _ ht))]
    have e2 : ((List.range n).map fun i => ends1 i s).sum = 2 := by
      have : ((List.range n).map fun i => ends1 i s) = (List.range n).map fun i => (if s.1 = i then 1 else 0) + (if s.2.1 = i then 1 else 0) := rfl
      rw [this, sum_add, sum_one n _ h1.1, sum_one n _ h1.2]
    rw [e2, List.length_cons]; omega
theorem odds_even {n : Nat} {ss : List St} (h : ∀ s ∈ ss, s.1 < n ∧ s.2.1 < n) : (oddsTo n ss).length % 2 = 0 := by
  unfold oddsTo
  rw [List.length_map, odd_count, deg_sum h]; omega
end
end Go.Proofs.Ytjklnknlifpidaa
