/- Calls for all: both sides. No condition. -/
import Derived.Test.YtonnffilcmlodaaVi0
import Derived.Test.YtonnffilcmlodaaVg
import Derived.Test.YtonnffilcmlodaaJ2e
namespace Go.Proofs.Ytonnffilcmlodaa
open Go.RowKit

/-- What CallsFor answers. -/
def CfRes (w : World) (rs : List (List Int)) (e : Ending) (w' : World) : Prop := ∃ H c hs, e = .returned (.slice H rs.length c) ∧ Built w' w.heap.size H c hs rs ∧ Below w.heap.size w w'
theorem downL_len (n m : Nat) : (downL n m).length = m := by simp [downL]
theorem upR_len (k m : Nat) : (upR k m).length = m := by simp [upR]
theorem downL_succ (n m : Nat) : downL n (m + 1) = downL n m ++ [[((n - 1 - m : Nat) : Int), 0]] := by simp [downL, List.range_succ]
theorem upR_succ (k m : Nat) : upR k (m + 1) = upR k m ++ [[0, ((k + m : Nat) : Int)]] := by simp [upR, List.range_succ]
theorem coreN_le {n : Nat} (h : 1 ≤ n) : 1 ≤ coreN n ∧ coreN n ≤ n := by unfold coreN; split; omega; split <;> omega
theorem Built.nil (w : World) (base : Nat) : Built w base none 0 [] [] := ⟨⟨rfl, .inl ⟨rfl, rfl⟩⟩, ⟨rfl, fun i hi => by simp at hi⟩, ⟨fun i j hi => by simp at hi, fun i hi => by simp at hi⟩⟩
theorem int2_of (w : World) (g : Nat) (x y : Int) (hc : w.heap[g]? = some (.cells #[.int .i64 x, .int .i64 y] 3 (0, 0))) {base : Nat} (hb : base ≤ g) : Own w (base + 1) w.heap.size (some ⟨g, 0, none⟩) ([x, y].map (Value.int .i64)) := by
  have hlt := (Array.getElem?_eq_some_iff.1 hc).1
  refine .inr ⟨g, 0, rfl, by omega, hlt, fun j u hu => ?_, fun _ j => frozen_of_row _ _ _ _ _ hc⟩
  rw [Nat.zero_add, cell_of_row _ _ j _ _ _ hc]
  simpa using hu
theorem allocAt (w : World) (o : Obj) {g : Nat} {x : Obj} (h : w.heap[g]? = some x) : (w.alloc o).heap[g]? = some x := by
  have hlt := (Array.getElem?_eq_some_iff.1 h).1
  exact (((Below.refl _ _).alloc (Nat.le_refl _) o : Below w.heap.size w (w.alloc o)).block g hlt).trans h

theorem core2_facts (W : World) : Below W.heap.size W ((W.alloc (.cells #[.int .i64 0, .int .i64 1] 3)).alloc (.cells #[.slice (some ⟨W.heap.size, 0, none⟩) 2 2] 28)) ∧ GridAt ((W.alloc (.cells #[.int .i64 0, .int .i64 1] 3)).alloc (.cells #[.slice (some ⟨W.heap.size, 0, none⟩) 2 2] 28)) (W.heap.size + 1) ((W.alloc (.cells #[.int .i64 0, .int .i64 1] 3)).alloc (.cells #[.slice (some ⟨W.heap.size, 0, none⟩) 2 2] 28)).heap.size [.slice (some ⟨W.heap.size, 0, none⟩) 2 2] (coreL 2) ∧ GridApart none [.slice (some ⟨W.heap.size, 0, none⟩) 2 2] (coreL 2) ∧ Own ((W.alloc (.cells #[.int .i64 0, .int .i64 1] 3)).alloc (.cells #[.slice (some ⟨W.heap.size, 0, none⟩) 2 2] 28)) 0 ((W.alloc (.cells #[.int .i64 0, .int .i64 1] 3)).alloc (.cells #[.slice (some ⟨W.heap.size, 0, none⟩) 2 2] 28)).heap.size (some ⟨W.heap.size + 1, 0, none⟩) [.slice (some ⟨W.heap.size, 0, none⟩) 2 2] := by
  have hz : ((W.alloc (.cells #[.int .i64 0, .int .i64 1] 3)).alloc (.cells #[.slice (some ⟨W.heap.size, 0, none⟩) 2 2] 28)).heap.size = W.heap.size + 2 := by simp
  have h0 : ((W.alloc (.cells #[.int .i64 0, .int .i64 1] 3)).alloc (.cells #[.slice (some ⟨W.heap.size, 0, none⟩) 2 2] 28)).heap[W.heap.size]? = some (.cells #[.int .i64 0, .int .i64 1] 3 (0, 0)) := by
    have := heap_alloc_new W (.cells #[.int .i64 0, .int .i64 1] 3)
    have h2 : (W.alloc (.cells #[.int .i64 0, .int .i64 1] 3)).heap[W.heap.size]? = some (.cells #[.int .i64 0, .int .i64 1] 3 (0, 0)) := by simpa using this
    exact (allocAt _ _ h2)
  have hh : ((W.alloc (.cells #[.int .i64 0, .int .i64 1] 3)).alloc (.cells #[.slice (some ⟨W.heap.size, 0, none⟩) 2 2] 28)).heap[W.heap.size + 1]? = some (.cells #[.slice (some ⟨W.heap.size, 0, none⟩) 2 2] 28 (0, 0)) := by
    have := heap_alloc_new (W.alloc (.cells #[.int .i64 0, .int .i64 1] 3)) (.cells #[.slice (some ⟨W.heap.size, 0, none⟩) 2 2] 28)
    simpa using this
  refine ⟨?_, ⟨rfl, fun i hi => ?_⟩, ⟨fun i j hi hj A B c d hij h1 h2 h3 h4 => ?_, fun i hi A c h1 h3 => ?_⟩, ?_⟩
  · have b0 := Below.refl W.heap.size W
    have b1 := b0.alloc (by simp <;> omega) (.cells #[.int .i64 0, .int .i64 1] 3)
    have b2 := b1.alloc (by simp <;> omega) (.cells #[.slice (some ⟨W.heap.size, 0, none⟩) 2 2] 28)
    exact b2
  · obtain ⟨X, hX⟩ : ∃ X, ((W.alloc (.cells #[.int .i64 0, .int .i64 1] 3)).alloc (.cells #[.slice (some ⟨W.heap.size, 0, none⟩) 2 2] 28)) = X := ⟨_, rfl⟩
    rw [hX] at hz hh h0 ⊢
    simp only [coreL, if_true, List.length_cons, List.length_nil] at hi
    obtain rfl : i = 0 := by omega
    exact ⟨_, 2, rfl, by simp [coreL], int2_of X _ 0 1 h0 (Nat.le_refl _)⟩
  · simp only [coreL, if_true, List.length_cons, List.length_nil] at hi hj; omega
  · simp only [coreL, if_true, List.length_cons, List.length_nil] at hi
    obtain rfl : i = 0 := by omega
    simp only [List.getElem?_cons_zero, Option.some.injEq, Value.slice.injEq] at h3
    rw [← h3.1]; simp
  · obtain ⟨X, hX⟩ : ∃ X, ((W.alloc (.cells #[.int .i64 0, .int .i64 1] 3)).alloc (.cells #[.slice (some ⟨W.heap.size, 0, none⟩) 2 2] 28)) = X := ⟨_, rfl⟩
    rw [hX] at hz hh ⊢
    refine .inr ⟨_, 0, rfl, by omega, by omega, fun j u hu => ?_, fun h => absurd h (by omega)⟩
    rw [Nat.zero_add, cell_of_row _ _ j _ _ _ hh]
    simpa using hu
theorem core4_facts (W : World) : Below W.heap.size W (((((W.alloc (.cells #[.int .i64 0, .int .i64 1] 3)).alloc (.cells #[.int .i64 2, .int .i64 3] 3)).alloc (.cells #[.int .i64 0, .int .i64 2] 3)).alloc (.cells #[.int .i64 1, .int .i64 3] 3)).alloc (.cells #[.slice (some ⟨W.heap.size, 0, none⟩) 2 2, .slice (some ⟨W.heap.size + 1, 0, none⟩) 2 2, .slice (some ⟨W.heap.size + 1 + 1, 0, none⟩) 2 2, .slice (some ⟨W.heap.size + 1 + 1 + 1, 0, none⟩) 2 2] 28)) ∧ GridAt (((((W.alloc (.cells #[.int .i64 0, .int .i64 1] 3)).alloc (.cells #[.int .i64 2, .int .i64 3] 3)).alloc (.cells #[.int .i64 0, .int .i64 2] 3)).alloc (.cells #[.int .i64 1, .int .i64 3] 3)).alloc (.cells #[.slice (some ⟨W.heap.size, 0, none⟩) 2 2, .slice (some ⟨W.heap.size + 1, 0, none⟩) 2 2, .slice (some ⟨W.heap.size + 1 + 1, 0, none⟩) 2 2, .slice (some ⟨W.heap.size + 1 + 1 + 1, 0, none⟩) 2 2] 28)) (W.heap.size + 1) (((((W.alloc (.cells #[.int .i64 0, .int .i64 1] 3)).alloc (.cells #[.int .i64 2, .int .i64 3] 3)).alloc (.cells #[.int .i64 0, .int .i64 2] 3)).alloc (.cells #[.int .i64 1, .int .i64 3] 3)).alloc (.cells #[.slice (some ⟨W.heap.size, 0, none⟩) 2 2, .slice (some ⟨W.heap.size + 1, 0, none⟩) 2 2, .slice (some ⟨W.heap.size + 1 + 1, 0, none⟩) 2 2, .slice (some ⟨W.heap.size + 1 + 1 + 1, 0, none⟩) 2 2] 28)).heap.size [.slice (some ⟨W.heap.size, 0, none⟩) 2 2, .slice (some ⟨W.heap.size + 1, 0, none⟩) 2 2, .slice (some ⟨W.heap.size + 1 + 1, 0, none⟩) 2 2, .slice (some ⟨W.heap.size + 1 + 1 + 1, 0, none⟩) 2 2] (coreL 4) ∧ GridApart none [.slice (some ⟨W.heap.size, 0, none⟩) 2 2, .slice (some ⟨W.heap.size + 1, 0, none⟩) 2 2, .slice (some ⟨W.heap.size + 1 + 1, 0, none⟩) 2 2, .slice (some ⟨W.heap.size + 1 + 1 + 1, 0, none⟩) 2 2] (coreL 4) ∧ Own (((((W.alloc (.cells #[.int .i64 0, .int .i64 1] 3)).alloc (.cells #[.int .i64 2, .int .i64 3] 3)).alloc (.cells #[.int .i64 0, .int .i64 2] 3)).alloc (.cells #[.int .i64 1, .int .i64 3] 3)).alloc (.cells #[.slice (some ⟨W.heap.size, 0, none⟩) 2 2, .slice (some ⟨W.heap.size + 1, 0, none⟩) 2 2, .slice (some ⟨W.heap.size + 1 + 1, 0, none⟩) 2 2, .slice (some ⟨W.heap.size + 1 + 1 + 1, 0, none⟩) 2 2] 28)) 0 (((((W.alloc (.cells #[.int .i64 0, .int .i64 1] 3)).alloc (.cells #[.int .i64 2, .int .i64 3] 3)).alloc (.cells #[.int .i64 0, .int .i64 2] 3)).alloc (.cells #[.int .i64 1, .int .i64 3] 3)).alloc (.cells #[.slice (some ⟨W.heap.size, 0, none⟩) 2 2, .slice (some ⟨W.heap.size + 1, 0, none⟩) 2 2, .slice (some ⟨W.heap.size + 1 + 1, 0, none⟩) 2 2, .slice (some ⟨W.heap.size + 1 + 1 + 1, 0, none⟩) 2 2] 28)).heap.size (some ⟨W.heap.size + 1 + 1 + 1 + 1, 0, none⟩) [.slice (some ⟨W.heap.size, 0, none⟩) 2 2, .slice (some ⟨W.heap.size + 1, 0, none⟩) 2 2, .slice (some ⟨W.heap.size + 1 + 1, 0, none⟩) 2 2, .slice (some ⟨W.heap.size + 1 + 1 + 1, 0, none⟩) 2 2] := by
  have hz : (((((W.alloc (.cells #[.int .i64 0, .int .i64 1] 3)).alloc (.cells #[.int .i64 2, .int .i64 3] 3)).alloc (.cells #[.int .i64 0, .int .i64 2] 3)).alloc (.cells #[.int .i64 1, .int .i64 3] 3)).alloc (.cells #[.slice (some ⟨W.heap.size, 0, none⟩) 2 2, .slice (some ⟨W.heap.size + 1, 0, none⟩) 2 2, .slice (some ⟨W.heap.size + 1 + 1, 0, none⟩) 2 2, .slice (some ⟨W.heap.size + 1 + 1 + 1, 0, none⟩) 2 2] 28)).heap.size = W.heap.size + 5 := by simp
  have h0 : (((((W.alloc (.cells #[.int .i64 0, .int .i64 1] 3)).alloc (.cells #[.int .i64 2, .int .i64 3] 3)).alloc (.cells #[.int .i64 0, .int .i64 2] 3)).alloc (.cells #[.int .i64 1, .int .i64 3] 3)).alloc (.cells #[.slice (some ⟨W.heap.size, 0, none⟩) 2 2, .slice (some ⟨W.heap.size + 1, 0, none⟩) 2 2, .slice (some ⟨W.heap.size + 1 + 1, 0, none⟩) 2 2, .slice (some ⟨W.heap.size + 1 + 1 + 1, 0, none⟩) 2 2] 28)).heap[W.heap.size]? = some (.cells #[.int .i64 0, .int .i64 1] 3 (0, 0)) := by
    have := heap_alloc_new W (.cells #[.int .i64 0, .int .i64 1] 3)
    have h2 : (W.alloc (.cells #[.int .i64 0, .int .i64 1] 3)).heap[W.heap.size]? = some (.cells #[.int .i64 0, .int .i64 1] 3 (0, 0)) := by simpa using this
    exact (allocAt _ _ (allocAt _ _ (allocAt _ _ (allocAt _ _ h2))))
  have h1 : (((((W.alloc (.cells #[.int .i64 0, .int .i64 1] 3)).alloc (.cells #[.int .i64 2, .int .i64 3] 3)).alloc (.cells #[.int .i64 0, .int .i64 2] 3)).alloc (.cells #[.int .i64 1, .int .i64 3] 3)).alloc (.cells #[.slice (some ⟨W.heap.size, 0, none⟩) 2 2, .slice (some ⟨W.heap.size + 1, 0, none⟩) 2 2, .slice (some ⟨W.heap.size + 1 + 1, 0, none⟩) 2 2, .slice (some ⟨W.heap.size + 1 + 1 + 1, 0, none⟩) 2 2] 28)).heap[W.heap.size + 1]? = some (.cells #[.int .i64 2, .int .i64 3] 3 (0, 0)) := by
    have := heap_alloc_new (W.alloc (.cells #[.int .i64 0, .int .i64 1] 3)) (.cells #[.int .i64 2, .int .i64 3] 3)
    have h2 : ((W.alloc (.cells #[.int .i64 0, .int .i64 1] 3)).alloc (.cells #[.int .i64 2, .int .i64 3] 3)).heap[W.heap.size + 1]? = some (.cells #[.int .i64 2, .int .i64 3] 3 (0, 0)) := by simpa using this
    exact (allocAt _ _ (allocAt _ _ (allocAt _ _ h2)))
  have h2 : (((((W.alloc (.cells #[.int .i64 0, .int .i64 1] 3)).alloc (.cells #[.int .i64 2, .int .i64 3] 3)).alloc (.cells #[.int .i64 0, .int .i64 2] 3)).alloc (.cells #[.int .i64 1, .int .i64 3] 3)).alloc (.cells #[.slice (some ⟨W.heap.size, 0, none⟩) 2 2, .slice (some ⟨W.heap.size + 1, 0, none⟩) 2 2, .slice (some ⟨W.heap.size + 1 + 1, 0, none⟩) 2 2, .slice (some ⟨W.heap.size + 1 + 1 + 1, 0, none⟩) 2 2] 28)).heap[W.heap.size + 1 + 1]? = some (.cells #[.int .i64 0, .int .i64 2] 3 (0, 0)) := by
    have := heap_alloc_new ((W.alloc (.cells #[.int .i64 0, .int .i64 1] 3)).alloc (.cells #[.int .i64 2, .int .i64 3] 3)) (.cells #[.int .i64 0, .int .i64 2] 3)
    have h2 : (((W.alloc (.cells #[.int .i64 0, .int .i64 1] 3)).alloc (.cells #[.int .i64 2, .int .i64 3] 3)).alloc (.cells #[.int .i64 0, .int .i64 2] 3)).heap[W.heap.size + 1 + 1]? = some (.cells #[.int .i64 0, .int .i64 2] 3 (0, 0)) := by simpa using this
    exact (allocAt _ _ (allocAt _ _ h2))
  have h3 : (((((W.alloc (.cells #[.int .i64 0, .int .i64 1] 3)).alloc (.cells #[.int .i64 2, .int .i64 3] 3)).alloc (.cells #[.int .i64 0, .int .i64 2] 3)).alloc (.cells #[.int .i64 1, .int .i64 3] 3)).alloc (.cells #[.slice (some ⟨W.heap.size, 0, none⟩) 2 2, .slice (some ⟨W.heap.size + 1, 0, none⟩) 2 2, .slice (some ⟨W.heap.size + 1 + 1, 0, none⟩) 2 2, .slice (some ⟨W.heap.size + 1 + 1 + 1, 0, none⟩) 2 2] 28)).heap[W.heap.size + 1 + 1 + 1]? = some (.cells #[.int .i64 1, .int .i64 3] 3 (0, 0)) := by
    have := heap_alloc_new (((W.alloc (.cells #[.int .i64 0, .int .i64 1] 3)).alloc (.cells #[.int .i64 2, .int .i64 3] 3)).alloc (.cells #[.int .i64 0, .int .i64 2] 3)) (.cells #[.int .i64 1, .int .i64 3] 3)
    have h2 : ((((W.alloc (.cells #[.int .i64 0, .int .i64 1] 3)).alloc (.cells #[.int .i64 2, .int .i64 3] 3)).alloc (.cells #[.int .i64 0, .int .i64 2] 3)).alloc (.cells #[.int .i64 1, .int .i64 3] 3)).heap[W.heap.size + 1 + 1 + 1]? = some (.cells #[.int .i64 1, .int .i64 3] 3 (0, 0)) := by simpa using this
    exact (allocAt _ _ h2)
  have hh : (((((W.alloc (.cells #[.int .i64 0, .int .i64 1] 3)).alloc (.cells #[.int .i64 2, .int .i64 3] 3)).alloc (.cells #[.int .i64 0, .int .i64 2] 3)).alloc (.cells #[.int .i64 1, .int .i64 3] 3)).alloc (.cells #[.slice (some ⟨W.heap.size, 0, none⟩) 2 2, .slice (some ⟨W.heap.size + 1, 0, none⟩) 2 2, .slice (some ⟨W.heap.size + 1 + 1, 0, none⟩) 2 2, .slice (some ⟨W.heap.size + 1 + 1 + 1, 0, none⟩) 2 2] 28)).heap[W.heap.size + 1 + 1 + 1 + 1]? = some (.cells #[.slice (some ⟨W.heap.size, 0, none⟩) 2 2, .slice (some ⟨W.heap.size + 1, 0, none⟩) 2 2, .slice (some ⟨W.heap.size + 1 + 1, 0, none⟩) 2 2, .slice (some ⟨W.heap.size + 1 + 1 + 1, 0, none⟩) 2 2] 28 (0, 0)) := by
    have := heap_alloc_new ((((W.alloc (.cells #[.int .i64 0, .int .i64 1] 3)).alloc (.cells #[.int .i64 2, .int .i64 3] 3)).alloc (.cells #[.int .i64 0, .int .i64 2] 3)).alloc (.cells #[.int .i64 1, .int .i64 3] 3)) (.cells #[.slice (some ⟨W.heap.size, 0, none⟩) 2 2, .slice (some ⟨W.heap.size + 1, 0, none⟩) 2 2, .slice (some ⟨W.heap.size + 1 + 1, 0, none⟩) 2 2, .slice (some ⟨W.heap.size + 1 + 1 + 1, 0, none⟩) 2 2] 28)
    simpa using this
  refine ⟨?_, ⟨rfl, fun i hi => ?_⟩, ⟨fun i j hi hj A B c d hij h1 h2 h3 h4 => ?_, fun i hi A c h1 h3 => ?_⟩, ?_⟩
  · have b0 := Below.refl W.heap.size W
    have b1 := b0.alloc (by simp <;> omega) (.cells #[.int .i64 0, .int .i64 1] 3)
    have b2 := b1.alloc (by simp <;> omega) (.cells #[.int .i64 2, .int .i64 3] 3)
    have b3 := b2.alloc (by simp <;> omega) (.cells #[.int .i64 0, .int .i64 2] 3)
    have b4 := b3.alloc (by simp <;> omega) (.cells #[.int .i64 1, .int .i64 3] 3)
    have b5 := b4.alloc (by simp <;> omega) (.cells #[.slice (some ⟨W.heap.size, 0, none⟩) 2 2, .slice (some ⟨W.heap.size + 1, 0, none⟩) 2 2, .slice (some ⟨W.heap.size + 1 + 1, 0, none⟩) 2 2, .slice (some ⟨W.heap.size + 1 + 1 + 1, 0, none⟩) 2 2] 28)
    exact b5
  · obtain ⟨X, hX⟩ : ∃ X, (((((W.alloc (.cells #[.int .i64 0, .int .i64 1] 3)).alloc (.cells #[.int .i64 2, .int .i64 3] 3)).alloc (.cells #[.int .i64 0, .int .i64 2] 3)).alloc (.cells #[.int .i64 1, .int .i64 3] 3)).alloc (.cells #[.slice (some ⟨W.heap.size, 0, none⟩) 2 2, .slice (some ⟨W.heap.size + 1, 0, none⟩) 2 2, .slice (some ⟨W.heap.size + 1 + 1, 0, none⟩) 2 2, .slice (some ⟨W.heap.size + 1 + 1 + 1, 0, none⟩) 2 2] 28)) = X := ⟨_, rfl⟩
    rw [hX] at hz hh h0 h1 h2 h3 ⊢
    have hi4 : i < 4 := by simpa [coreL] using hi
    rcases (show i = 0 ∨ i = 1 ∨ i = 2 ∨ i = 3 by omega) with rfl | rfl | rfl | rfl
    · exact ⟨_, 2, rfl, by simp [coreL], int2_of X _ 0 1 h0 (by omega)⟩
    · exact ⟨_, 2, rfl, by simp [coreL], int2_of X _ 2 3 h1 (by omega)⟩
    · exact ⟨_, 2, rfl, by simp [coreL], int2_of X _ 0 2 h2 (by omega)⟩
    · exact ⟨_, 2, rfl, by simp [coreL], int2_of X _ 1 3 h3 (by omega)⟩
  · have hi4 : i < 4 := by simpa [coreL] using hi
    have hj4 : j < 4 := by simpa [coreL] using hj
    have key : ∀ (i : Nat) (A : Option Addr) (n c : Nat), i < 4 → [.slice (some ⟨W.heap.size, 0, none⟩) 2 2, .slice (some ⟨W.heap.size + 1, 0, none⟩) 2 2, .slice (some ⟨W.heap.size + 1 + 1, 0, none⟩) 2 2, .slice (some ⟨W.heap.size + 1 + 1 + 1, 0, none⟩) 2 2][i]? = some (Value.slice A n c) → A = some ⟨W.heap.size + i, 0, none⟩ := by
      intro i A n c hi h
      rcases (show i = 0 ∨ i = 1 ∨ i = 2 ∨ i = 3 by omega) with rfl | rfl | rfl | rfl <;> simp at h <;> exact h.1.symm
    rw [key i A _ c hi4 h3, key j B _ d hj4 h4]
    simp; omega
  · have hi4 : i < 4 := by simpa [coreL] using hi
    rcases (show i = 0 ∨ i = 1 ∨ i = 2 ∨ i = 3 by omega) with rfl | rfl | rfl | rfl <;> simp at h3 <;> rw [← h3.1] <;> simp
  · obtain ⟨X, hX⟩ : ∃ X, (((((W.alloc (.cells #[.int .i64 0, .int .i64 1] 3)).alloc (.cells #[.int .i64 2, .int .i64 3] 3)).alloc (.cells #[.int .i64 0, .int .i64 2] 3)).alloc (.cells #[.int .i64 1, .int .i64 3] 3)).alloc (.cells #[.slice (some ⟨W.heap.size, 0, none⟩) 2 2, .slice (some ⟨W.heap.size + 1, 0, none⟩) 2 2, .slice (some ⟨W.heap.size + 1 + 1, 0, none⟩) 2 2, .slice (some ⟨W.heap.size + 1 + 1 + 1, 0, none⟩) 2 2] 28)) = X := ⟨_, rfl⟩
    rw [hX] at hz hh ⊢
    refine .inr ⟨_, 0, rfl, by omega, by omega, fun j u hu => ?_, fun h => absurd h (by omega)⟩
    rw [Nat.zero_add, cell_of_row _ _ j _ _ _ hh]
    simpa using hu
end Go.Proofs.Ytonnffilcmlodaa
