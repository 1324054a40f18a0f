/- impl.StacksOf. No condition. -/
import Derived.Test.YtdgdlmpmoafkgaaJ0
import Derived.Deep.RegionHeld3
namespace Go.Proofs.Ytdgdlmpmoafkgaa
open Go.RowKit

theorem Stacks.below {w w' : World} {g base : Nat} {L : Nat → List Int} (h : Stacks w g base L) (hb : Below w.heap.size w w') : Stacks w' g base L := h.same hb.size (fun i hi _ => hb.block i hi)

theorem Stacks.atIn {w w' : World} {g base s : Nat} {L : Nat → List Int} (h : Stacks w g base L) (hsz : w.heap.size ≤ w'.heap.size) (hk : ∀ i, i < w.heap.size → (i = g ∨ base ≤ i) → w'.heap[i]? = w.heap[i]?) (hs : s < 9) : ∃ (A : Option Addr) (c : Nat), (∀ i, A.map (·.block) = some i → base ≤ i ∧ i < w.heap.size) ∧
    w'.cell? ⟨g, s, none⟩ = some (.slice A (L s).length c) ∧ w'.ownsRow base 3 1 (.slice A (L s).length c) (L s).length ((L s).map (Value.int .i64)) ∧ ∀ x w'', PutPost w' g s base (L s).length A (L s) x w'' → Stacks w'' g base (fun t => if t = s then L s ++ [x] else L t) := by
  obtain ⟨A, c, h1, h2, h3⟩ := (h.same hsz hk).at hs
  obtain ⟨A0, c0, k1, k2, _⟩ := h.at hs
  have e := World.cell?_of_block (a := ⟨g, s, none⟩) (hk g (by have := h.1; have := h.2.1; omega) (.inl rfl))
  rw [h1, k1] at e
  simp only [Option.some.injEq, Value.slice.injEq, true_and] at e
  obtain ⟨rfl, rfl⟩ := e
  exact ⟨A, c, fun i hi => k2.lt i (by rw [slice_block]; exact hi), h1, h2, h3⟩
theorem PutPost.cellOther {w w' : World} {g s base n : Nat} {A : Option Addr} {xs : List Int} {x : Int} (h : PutPost w g s base n A xs x w') {a : Addr} (ha : a.block < w.heap.size) (hg : a.block ≠ g) (hA : A.map (·.block) ≠ some a.block) : w'.cell? a = w.cell? a := by
  obtain ⟨A', c', p1, p2, p3, p4⟩ := h
  exact World.cell?_of_block (p3.block a.block ha hg (fun e => hA e.symm))
theorem PutPost.undrew1 {w w' : World} {g s base n : Nat} {A : Option Addr} {xs : List Int} {x : Int} (h : PutPost w.drew g s base n A xs x w') : PutPost w g s base n A xs x w' := by
  obtain ⟨A', c', p1, p2, p3, p4⟩ := h
  exact ⟨A', c', p1, p2, ⟨p3.os, p3.tape, p3.output, p3.size, p3.block, p3.cell, p3.frozen⟩, p4⟩
theorem own_below {w w' : World} {base n : Nat} {e : TypeId} {v : Value} {size : Nat} {xs : List Value} (h : w.ownsRow base e size v n xs) (hb : Below w.heap.size w w') : w'.ownsRow base e size v n xs :=
  ownsRow_same h fun i hi => hb.block i (h.lt i hi).2
end Go.Proofs.Ytdgdlmpmoafkgaa
