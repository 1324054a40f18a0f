/- Marks written into a result, and found again. No condition. -/
import Derived.Test.YtamkaodbegjfpaaDoorA2
namespace Go.Proofs.YtamkaodbegjfpaaDoor
open Go.RowKit

def upFrom (k : Int) (n : Nat) : List Int := (List.range n).map fun (i : Nat) => k + (i : Int)
theorem upFrom_length (k : Int) (n : Nat) : (upFrom k n).length = n := by simp [upFrom]
theorem upFrom_get (k : Int) (n i : Nat) (h : i < n) : (upFrom k n)[i]'(by rw [upFrom_length]; exact h) = k + i := by simp [upFrom]

/-- One more mark. -/
theorem mark_step (k : Int) (zs : List Int) (j : Nat) (hj : j < zs.length) :
    ((upFrom k j ++ zs.drop j).map (Value.int .i64)).set j (Value.int .i64 (k + j)) = (upFrom k (j + 1) ++ zs.drop (j + 1)).map (Value.int .i64) := by
  apply List.ext_getElem?
  intro i
  rw [List.getElem?_set]
  by_cases hij : j = i
  · subst hij
    rw [if_pos rfl, if_pos (by simp [upFrom_length]; omega), List.getElem?_map, List.getElem?_append_left (by rw [upFrom_length]; omega)]
    simp [upFrom]
  · rw [if_neg hij, List.getElem?_map, List.getElem?_map]
    congr 1
    by_cases hi : i < j
    · rw [List.getElem?_append_left (by rw [upFrom_length]; omega), List.getElem?_append_left (by rw [upFrom_length]; omega)]
      simp only [upFrom, List.getElem?_map]
      rw [List.getElem?_eq_getElem (by simp; omega), List.getElem?_eq_getElem (by simp; omega)]
      simp
    · rw [List.getElem?_append_right (by rw [upFrom_length]; omega), List.getElem?_append_right (by rw [upFrom_length]; omega), upFrom_length, upFrom_length, List.getElem?_drop, List.getElem?_drop]
      congr 1
      omega
end Go.Proofs.YtamkaodbegjfpaaDoor
