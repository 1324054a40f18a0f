/- Calls that are drawn. No condition. -/
import Derived.Test.YtonnffilcmlodaaVj
import Derived.Test.YtonnffilcmlodaaRd2
import Derived.Test.YtonnffilcmlodaaBp
import Derived.Test.YtonnffilcmlodaaH6
namespace Go.Proofs.Ytonnffilcmlodaa
open Go.RowKit

/-- What is drawn. -/
def DrCs (n : Int) (rs : List (List Int)) : Prop :=
  ((rs.length = 0 ∨ rs.length = 3 ∨ rs.length = 4 ∨ rs.length = 6 ∨ rs.length = 8 ∨ rs.length = 20) ∨ (∃ m : Nat, n = m ∧ 1 ≤ m ∧ m ≤ 7 ∧ (rs = cfL m ∨ rs = (cfL m).tail))) ∨ callsB n rs = false
def DrG (w : World) (n : Int) (A : Option Addr) (c : Nat) (rs : List (List Int)) (w' : World) : Prop :=
  (0 ≤ n ∧ n ≤ 8) ∧ rs.length ≤ 22 ∧ rs.length ≤ c ∧ (∀ r ∈ rs, r.length ≤ 2) ∧ DrCs n rs ∧ Grid w' 0 w'.heap.size A rs ∧ Below w.heap.size w w'
theorem calls_zero (n : Int) (rs : List (List Int)) : callsB n (rs ++ [[0, 0]]) = false := by
  unfold callsB
  rw [List.all_append]
  simp [callB]
/-- Rows without the first one. -/
theorem Built.cut {w : World} {base c g : Nat} {hs : List Value} {r : List Int} {rs : List (List Int)} (h : Built w base (some ⟨g, 0, none⟩) c hs (r :: rs)) : Grid w 0 w.heap.size (some ⟨g, 1, none⟩) rs := by
  obtain ⟨hs2, h1, h2, h3⟩ := h.mgrid
  refine ⟨hs2.drop 1, ?_, ?_, fun i hi => ?_⟩
  · have := h1.row.drop 1
    rwa [Nat.zero_add] at this
  · rw [List.length_drop, h2.1]; simp
  · obtain ⟨A, c', g1, g2, g3⟩ := h2.2 (i + 1) (by simp; omega)
    exact ⟨A, c', by rw [List.getElem?_drop, Nat.add_comm]; exact g1, g2, g3.row⟩
end Go.Proofs.Ytonnffilcmlodaa
