/- Stacks behind a pointer: bears, put, makeRoomFor; impl.oneForEach. No condition. -/
import Derived.Test.YtempfagjbpnlcaaI5
import Derived.Test.YtempfagjbpnlcaaEx
import Derived.WalkSmall
import Derived.Deep.QuietTactic
import Derived.StillTailTactics
namespace Go.Proofs.Ytempfagjbpnlcaa
open Go.RowKit

/-- The cell s of block g alone was written, and block r, and new ones. -/
structure StW (w w' : World) (g s : Nat) (r : Option Nat) : Prop where
  os : w'.os = w.os
  tape : w'.tape = w.tape
  output : w'.output = w.output
  size : w.heap.size ≤ w'.heap.size
  block : ∀ i, i < w.heap.size → i ≠ g → some i ≠ r → w'.heap[i]? = w.heap[i]?
  cell : ∀ j, j ≠ s → w'.cell? ⟨g, j, none⟩ = w.cell? ⟨g, j, none⟩
  frozen : ∀ j, w'.frozen? ⟨g, j, none⟩ = w.frozen? ⟨g, j, none⟩

theorem StW.refl (w : World) (g s : Nat) (r : Option Nat) : StW w w g s r := ⟨rfl, rfl, rfl, Nat.le_refl _, fun _ _ _ _ => rfl, fun _ _ => rfl, fun _ => rfl⟩
theorem StW.trans {w w1 w2 : World} {g s : Nat} {r r' : Option Nat} (h : StW w w1 g s r) (k : StW w1 w2 g s r') (hr : r' = r ∨ ∀ i, r' = some i → w.heap.size ≤ i) : StW w w2 g s r :=
  ⟨k.os.trans h.os, k.tape.trans h.tape, k.output.trans h.output, Nat.le_trans h.size k.size, fun i hi h1 h2 => (k.block i (Nat.lt_of_lt_of_le hi h.size) h1 (fun e => by
    rcases hr with hr | hr
    · exact h2 (e.trans hr)
    · have := hr i e.symm; omega)).trans (h.block i hi h1 h2), fun j hj => (k.cell j hj).trans (h.cell j hj), fun j => (k.frozen j).trans (h.frozen j)⟩
theorem StW.of_grown {w w' : World} {g s : Nat} {r : Option Nat} (h : w.grownBy w' r) (hg : g < w.heap.size) (hr : r ≠ some g) : StW w w' g s r :=
  ⟨h.os, h.tape, h.output, h.size, fun i hi _ h2 => h.block i hi h2, fun j _ => World.cell?_of_block (a := ⟨g, j, none⟩) (h.block g hg (fun e => hr e.symm)), fun j => World.frozen?_of_block (a := ⟨g, j, none⟩) (h.block g hg (fun e => hr e.symm))⟩
theorem StW.setCell (w : World) (g s : Nat) (u : Value) : StW w (w.setCell ⟨g, s, none⟩ u) g s none :=
  ⟨rfl, rfl, rfl, by simp, fun i _ h1 _ => Below.heap_setCell w _ _ i h1, fun j hj => World.cell?_setCell_other w _ _ _ (by intro e; injection e with _ e2; exact hj e2.symm), fun j => World.frozen?_setCell ..⟩
theorem StW.drewN {w w' : World} {g s : Nat} {r : Option Nat} (h : StW w w' g s r) (n : Nat) : StW w (w'.drewN n) g s r := ⟨h.os, h.tape, h.output, h.size, h.block, h.cell, h.frozen⟩
theorem StW.below {w w' : World} {g s B : Nat} {r : Option Nat} (h : StW w w' g s r) (hB : B ≤ g) (hw : B ≤ w.heap.size) (hr : ∀ i, r = some i → B ≤ i) : Below B w w' :=
  ⟨h.os, h.tape, h.output, h.size, fun i hi => h.block i (by omega) (by omega) (fun e => by have := hr i e.symm; omega)⟩
theorem StW.kept {w w' : World} {g s base n : Nat} {e : TypeId} {v : Value} {size : Nat} {xs : List Value} {r : Option Nat} (h : StW w w' g s r) (ho : w.ownsRow base e size v n xs) (hg : g < base) (hr : ∀ i, v.ownBlock = some i → r ≠ some i) : w'.ownsRow base e size v n xs := by
  refine ⟨ho.1, ?_⟩
  rcases ho.2 with hn | ⟨k, cap, cur, rfl, hb, hgg, rest⟩
  · exact .inl hn
  · refine .inr ⟨k, cap, cur, rfl, hb, ?_, rest⟩
    rw [h.block k (Array.getElem?_eq_some_iff.1 hgg).1 (by omega) (fun e => hr k rfl e.symm)]
    exact hgg

theorem last_cell {w : World} {base : Nat} {A : Option Addr} {n c : Nat} {xs : List Int} (h : w.ownsRow base 3 1 (.slice A n c) n (xs.map (Value.int .i64))) {d : Nat} (hd : n = d + 1) : ∃ b, A = some ⟨b, 0, none⟩ ∧ w.cell? ⟨b, d, none⟩ = some (.int .i64 (xs.getD d 0)) ∧ d < n ∧ n ≤ c := by
  obtain ⟨b, rfl, _, _⟩ := own_some h (by omega)
  refine ⟨b, rfl, ?_, by omega, own_cap h⟩
  have hl := h.1
  simp only [List.length_map, Nat.mul_one] at hl
  rw [h.cellAt d (by omega), List.getElem?_map, List.getElem?_eq_getElem (by omega), getD_get (by omega)]
  rfl

theorem bears_nil (x : Int) : bearsB [] x = true := rfl

def PutPost (w : World) (g s base n : Nat) (A : Option Addr) (xs : List Int) (x : Int) (w' : World) : Prop :=
  ∃ A' c', w'.cell? ⟨g, s, none⟩ = some (.slice A' (n + 1) c') ∧ w'.ownsRow base 3 1 (.slice A' (n + 1) c') (n + 1) ((xs ++ [x]).map (Value.int .i64)) ∧ StW w w' g s (A.map (·.block)) ∧ (A'.map (·.block) = A.map (·.block) ∨ A'.map (·.block) = some (w.heap.size + 1))

theorem takeWhile_of {p : Int → Bool} {l : List Int} {k : Nat} (hk : k ≤ l.length) (h : ∀ t ∈ l.take k, p t = true) (hs : k = l.length ∨ p (l.getD k 0) = false) : l.takeWhile p = l.take k ∧ l.dropWhile p = l.drop k := by
  induction l generalizing k with
  | nil => simp at hk; subst hk; simp
  | cons a l ih =>
    cases k with
    | zero =>
      rcases hs with hs | hs
      · simp at hs
      · simp only [List.getD_cons_zero] at hs
        rw [List.takeWhile_cons, List.dropWhile_cons]; simp [hs]
    | succ k =>
      have ha : p a = true := h a (by simp)
      obtain ⟨h1, h2⟩ := ih (k := k) (by simpa using hk) (fun t ht => h t (by simp [ht])) (by
        rcases hs with hs | hs
        · left; simpa using hs
        · right; simpa using hs)
      rw [List.takeWhile_cons, List.dropWhile_cons]; simp [ha, h1, h2]
theorem rev_take (xs : List Int) (k : Nat) (_h : k ≤ xs.length) : (xs.reverse.drop k).reverse = xs.take (xs.length - k) := by
  rw [List.drop_reverse, List.reverse_reverse]
theorem rev_getD {xs : List Int} {k : Nat} (h : k < xs.length) : xs.reverse.getD k 0 = xs.getD (xs.length - 1 - k) 0 := by
  have := getD_rev (zs := xs) (i := xs.length - 1 - k) (by omega)
  rw [show xs.length - 1 - (xs.length - 1 - k) = k by omega] at this
  exact this
theorem take_getD {xs : List Int} {m j : Nat} (h : j < m) : (xs.take m).getD j 0 = xs.getD j 0 := by
  simp only [List.getD_eq_getElem?_getD, List.getElem?_take, h, if_true]

def popped (xs : List Int) (x : Int) : List Int := xs.reverse.takeWhile fun t => !decide (x < t)
def stays (xs : List Int) (x : Int) : List Int := (xs.reverse.dropWhile fun t => !decide (x < t)).reverse
def PopPost (w : World) (g s base : Nat) (A : Option Addr) (c : Nat) (xs : List Int) (x : Int) (e : Ending) (w' : World) : Prop :=
  ∃ B d, e = .returned (.slice B (popped xs x).length d) ∧ w'.ownsRow w.heap.size 3 1 (.slice B (popped xs x).length d) (popped xs x).length ((popped xs x).map (Value.int .i64)) ∧
    w'.cell? ⟨g, s, none⟩ = some (.slice A (stays xs x).length c) ∧ w'.ownsRow base 3 1 (.slice A (stays xs x).length c) (stays xs x).length ((stays xs x).map (Value.int .i64)) ∧ StW w w' g s none
end Go.Proofs.Ytempfagjbpnlcaa
