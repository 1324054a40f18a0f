/- Rows put together. No condition. -/
import Derived.Test.YtldbefmiabgkhabG6
import Derived.Test.YtldbefmiabgkhabDr
namespace Go.Proofs.Ytldbefmiabgkhab
open Go.RowKit

theorem own_newC (w : World) (us : Array Value) (t : TypeId) {g : Nat} (hg : w.heap.size = g) : Own (w.alloc (.cells us t)) 0 (g + 1) (some ⟨g, 0, none⟩) us.toList := by
  subst hg; exact own_new w us t
theorem first_litG (W : World) (base g : Nat) (h : base ≤ W.heap.size) (hg : W.heap.size = g) : (W.alloc (.cells #[] 24)).ownsRow base 24 1 (.slice (some ⟨g, 0, none⟩) 0 0) 0 [] := by
  subst hg; exact World.ownsRow_lit W #[] 0 h (by simp [maxLen]) rfl
/-- Rows that are put together. -/
theorem gridAt_append {w : World} {base B : Nat} {hs js : List Value} {rs qs : List (List Int)} (h : GridAt w base B hs rs) (k : GridAt w base B js qs) : GridAt w base B (hs ++ js) (rs ++ qs) := by
  refine ⟨by rw [List.length_append, List.length_append, h.1, k.1], fun i hi => ?_⟩
  rw [List.length_append] at hi
  by_cases hlt : i < rs.length
  · obtain ⟨R, c, h1, h2, h3⟩ := h.2 i hlt
    rw [List.getElem_append_left hlt, List.getElem?_append_left (by rw [h.1]; exact hlt)]
    exact ⟨R, c, h1, h2, h3⟩
  · obtain ⟨R, c, h1, h2, h3⟩ := k.2 (i - rs.length) (by omega)
    rw [List.getElem_append_right (by omega), List.getElem?_append_right (by rw [h.1]; omega), h.1]
    exact ⟨R, c, h1, h2, h3⟩
theorem gridAt_take {w : World} {base B : Nat} {hs : List Value} {rs : List (List Int)} (h : GridAt w base B hs rs) (m : Nat) : GridAt w base B (hs.take m) (rs.take m) := by
  refine ⟨by rw [List.length_take, List.length_take, h.1], fun i hi => ?_⟩
  simp only [List.length_take] at hi
  obtain ⟨R, c, h1, h2, h3⟩ := h.2 i (by omega)
  rw [List.getElem_take, List.getElem?_take, if_pos (by omega)]
  exact ⟨R, c, h1, h2, h3⟩
theorem heads_one {hs : List Value} {w : World} {base B : Nat} {rs : List (List Int)} (h : GridAt w base B hs rs) : ∀ u ∈ hs, u.oneCell' = true := fun u hu => by
  obtain ⟨i, hi, rfl⟩ := List.getElem_of_mem hu
  obtain ⟨R, c, h1, _⟩ := h.2 i (by rw [← h.1]; exact hi)
  rw [List.getElem?_eq_getElem hi] at h1
  injection h1 with h1
  rw [h1]; rfl
end Go.Proofs.Ytldbefmiabgkhab
