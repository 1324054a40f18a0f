/- Answers: the order in which they are read, both. No condition. -/
import Derived.Test.YtldbefmiabgkhabT3
namespace Go.Proofs.Ytldbefmiabgkhab
open Go.RowKit

def ordL (zs : List Int) : List Int := if ansB zs then ro zs (-1) else []
theorem ordL_yes {zs : List Int} (h : ansB zs = true) : ordL zs = ro zs (-1) := by rw [ordL, if_pos h]
theorem ordL_no {zs : List Int} (h : ansB zs = false) : ordL zs = [] := by rw [ordL, if_neg (by simp [h])]
theorem one_rowD (W : World) (x : Int) : (W.alloc (.cells #[.int .i64 x] 3)).ownsRow W.heap.size 3 1 (.slice (some ⟨W.heap.size, 0, none⟩) 1 1) 1 [.int .i64 x] := ⟨rfl, .inr ⟨W.heap.size, 1, #[.int .i64 x], rfl, Nat.le_refl _, heap_alloc_new W _, Nat.le_refl _, by simp [maxLen], rfl, rfl⟩⟩
theorem int_cells (S : List Int) : ∀ u ∈ S.map (Value.int .i64), u.oneCell' = true := fun u hu => by
  obtain ⟨z, _, rfl⟩ := List.mem_map.1 hu; rfl

theorem own_keepR {w w' : World} {base n : Nat} {e : TypeId} {v : Value} {size : Nat} {xs : List Value} (h : w.ownsRow base e size v n xs) (hb : Below w.heap.size w w') : w'.ownsRow base e size v n xs := by
  refine ⟨h.1, ?_⟩
  rcases h.2 with hn | ⟨k, cap, cur, rfl, hb2, hgg, rest⟩
  · exact .inl hn
  · exact .inr ⟨k, cap, cur, rfl, hb2, by rw [hb.block k (Array.getElem?_eq_some_iff.1 hgg).1]; exact hgg, rest⟩

/-- What 'impl.readAnswers' says. -/
def RoPost (w : World) (base : Nat) (V : List Int) (e : Ending) (w' : World) : Prop := ∃ A c, e = .returned (.slice A V.length c) ∧ w'.ownsRow base 3 1 (.slice A V.length c) V.length (V.map (Value.int .i64)) ∧ Below base w w'
theorem RoPost.row {w w' : World} {base : Nat} {A : Option Addr} {n c : Nat} {V : List Int} (h : w'.ownsRow base 3 1 (.slice A n c) n (V.map (Value.int .i64))) (hn : n = V.length) (hb : Below base w w') : RoPost w base V (.returned (.slice A n c)) w' := by
  subst hn
  exact ⟨A, c, rfl, h, hb⟩
theorem RoPost.of {w w1 w' : World} {base : Nat} {V : List Int} {e : Ending} (h : RoPost w1 base V e w') (hb : Below base w w1) : RoPost w base V e w' := by
  obtain ⟨A, c, h1, h2, h3⟩ := h
  exact ⟨A, c, h1, h2, hb.trans h3⟩
end Go.Proofs.Ytldbefmiabgkhab
