/- Walks as sums of ways, plain. No condition. -/
import Derived.Test.YtlgeoilnjgojnaaAid
namespace Go.Proofs.Ytlgeoilnjgojnaa
open Go.RowKit

section
variable {α : Type}
/-- The sum of ways along a list, from a on. -/
def pl2 (d : α → α → Int) : α → List α → Int
  | _, [] => 0
  | a, b :: l => d a b + pl2 d b l
def ends : α → List α → α
  | a, [] => a
  | _, b :: l => ends b l
theorem ends_append (a : α) (l m : List α) : ends a (l ++ m) = ends (ends a l) m := by
  induction l generalizing a with
  | nil => rfl
  | cons b l ih => exact ih b
theorem pl2_append (d : α → α → Int) (a : α) (l m : List α) : pl2 d a (l ++ m) = pl2 d a l + pl2 d (ends a l) m := by
  induction l generalizing a with
  | nil => simp [pl2, ends]
  | cons b l ih => simp only [List.cons_append, pl2, ends, ih b]; omega
theorem pl2_one (d : α → α → Int) (a b : α) : pl2 d a [b] = d a b := by simp [pl2]
theorem pl2_rev {d : α → α → Int} (hs : ∀ a b, d a b = d b a) (a b : α) (l : List α) : pl2 d a (l ++ [b]) = pl2 d b (l.reverse ++ [a]) := by
  induction l generalizing a with
  | nil => simp only [List.nil_append, List.reverse_nil, pl2_one]; exact hs a b
  | cons c l ih =>
    rw [List.cons_append, List.reverse_cons, pl2_append d b (l.reverse ++ [c]) [a], ← ih c, ends_append]
    simp only [pl2, ends, hs c a]; omega
theorem pl2_tri {d : α → α → Int} (ht : ∀ a b c, d a c ≤ d a b + d b c) (a b : α) (l : List α) : d a b ≤ pl2 d a (l ++ [b]) := by
  induction l generalizing a with
  | nil => simp only [List.nil_append, pl2_one]; exact Int.le_refl _
  | cons c l ih => have h1 := ht a c b; have h2 := ih c; simp only [List.cons_append, pl2]; omega
theorem pl2_via {d : α → α → Int} (ht : ∀ a b c, d a c ≤ d a b + d b c) (a b h : α) (l : List α) (hm : h ∈ l) : d a h + d h b ≤ pl2 d a (l ++ [b]) := by
  induction l generalizing a with
  | nil => simp at hm
  | cons c l ih =>
    rcases List.mem_cons.1 hm with rfl | hm
    · have := pl2_tri ht h b l
      simp only [List.cons_append, pl2]; omega
    · have h1 := ih c hm
      have h2 := ht a c h
      simp only [List.cons_append, pl2]; omega
theorem pl2_lin {d e f : α → α → Int} {x : Int} (h : ∀ a b, d a b = e a b + x * f a b) (a : α) (l : List α) : pl2 d a l = pl2 e a l + x * pl2 f a l := by
  induction l generalizing a with
  | nil => simp [pl2]
  | cons b l ih => simp only [pl2, h a b, ih b, Int.mul_add]; omega
/-- The sums of a fold. -/
theorem fold_pl2 {β : Type} (d : α → α → Int) (h : β → α) (zs : List β) (c : Int) (a : α) : zs.foldl (fun (p : Int × α) z => (p.1 + d p.2 (h z), h z)) (c, a) = (c + pl2 d a (zs.map h), ends a (zs.map h)) := by
  induction zs generalizing c a with
  | nil => simp [pl2, ends]
  | cons z zs ih => simp only [List.foldl_cons, List.map_cons, pl2, ends, ih]; congr 1; omega
end

def abI (a b : Int × Int) : Int := max (a.1 - b.1) (b.1 - a.1)
def cr (a b : Int × Int) : Int := if a.2 = b.2 then 0 else 1
theorem abI_tri (a b c : Int × Int) : abI a c ≤ abI a b + abI b c := by unfold abI; omega
theorem cr_tri (a b c : Int × Int) : cr a c ≤ cr a b + cr b c := by
  unfold cr; (repeat' split) <;> omega
/-- A walk from the start over all houses and back is no shorter than twice the farthest place, and twice the cost to cross if there is one on the side 1. -/
theorem loop_ge {d : Int × Int → Int × Int → Int} {x : Int} (hd : ∀ a b, d a b = abI a b + x * cr a b) (hx : 0 ≤ x) (l : List (Int × Int)) (f s : Int) (hf : f = 0 ∨ ∃ h ∈ l, h.1 = f) (hs : s = 0 ∨ s = 1 ∧ ∃ h ∈ l, h.2 = 1) :
    2 * f + 2 * x * s ≤ pl2 d (0, 0) (l ++ [(0, 0)]) := by
  rw [pl2_lin hd]
  have h1 : 2 * f ≤ pl2 abI (0, 0) (l ++ [(0, 0)]) := by
    rcases hf with rfl | ⟨h, hm, rfl⟩
    · have := pl2_tri abI_tri (0, 0) (0, 0) l
      simp only [abI] at this ⊢; omega
    · have := pl2_via abI_tri (0, 0) (0, 0) h l hm
      simp only [abI] at this ⊢; omega
  have h2 : 2 * s ≤ pl2 cr (0, 0) (l ++ [(0, 0)]) := by
    rcases hs with rfl | ⟨rfl, h, hm, hh⟩
    · have := pl2_tri cr_tri (0, 0) (0, 0) l
      simp only [cr, if_true] at this ⊢; omega
    · have := pl2_via cr_tri (0, 0) (0, 0) h l hm
      simp only [cr, hh] at this ⊢; simpa using this
  have h3 : x * (2 * s) ≤ x * pl2 cr (0, 0) (l ++ [(0, 0)]) := Int.mul_le_mul_of_nonneg_left h2 hx
  have e : 2 * x * s = x * (2 * s) := by rw [Int.mul_comm 2 x, Int.mul_assoc]
  omega
end Go.Proofs.Ytlgeoilnjgojnaa
