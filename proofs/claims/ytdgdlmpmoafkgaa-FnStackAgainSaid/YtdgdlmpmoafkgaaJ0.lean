/- Stacks in an array; impl.CanUnload. No condition. -/
import Derived.Test.YtdgdlmpmoafkgaaI6
import Derived.Test.YtdgdlmpmoafkgaaI7
import Derived.Test.YtdgdlmpmoafkgaaI8
import Derived.Test.YtdgdlmpmoafkgaaAb
namespace Go.Proofs.Ytdgdlmpmoafkgaa
open Go.RowKit

theorem ownsRow_same {w w' : World} {base n : Nat} {e : TypeId} {v : Value} {size : Nat} {xs : List Value} (h : w.ownsRow base e size v n xs) (hk : ∀ i, v.ownBlock = some i → w'.heap[i]? = w.heap[i]?) : w'.ownsRow base e size v n xs := by
  refine ⟨h.1, ?_⟩
  rcases h.2 with hn | ⟨k, cap, cur, rfl, hb, hgg, rest⟩
  · exact .inl hn
  · exact .inr ⟨k, cap, cur, rfl, hb, by rw [hk k rfl]; exact hgg, rest⟩

/-- Nine stacks in the block g. -/
def Stacks (w : World) (g base : Nat) (L : Nat → List Int) : Prop :=
  g < base ∧ base ≤ w.heap.size ∧ (∀ j, w.frozen? ⟨g, j, none⟩ = false) ∧ ∃ (V : Nat → Option Addr) (C : Nat → Nat), (∀ s, s < 9 → w.cell? ⟨g, s, none⟩ = some (.slice (V s) (L s).length (C s)) ∧ w.ownsRow base 3 1 (.slice (V s) (L s).length (C s)) (L s).length ((L s).map (Value.int .i64))) ∧
    ∀ s t, s < 9 → t < 9 → s ≠ t → (V s).map (·.block) = none ∨ (V s).map (·.block) ≠ (V t).map (·.block)

theorem Stacks.same {w w' : World} {g base : Nat} {L : Nat → List Int} (h : Stacks w g base L) (hsz : w.heap.size ≤ w'.heap.size) (hk : ∀ i, i < w.heap.size → (i = g ∨ base ≤ i) → w'.heap[i]? = w.heap[i]?) : Stacks w' g base L := by
  obtain ⟨h1, h2, h3, V, C, h4, h5⟩ := h
  have hg := hk g (by omega) (.inl rfl)
  refine ⟨h1, by omega, fun j => (World.frozen?_of_block (a := ⟨g, j, none⟩) hg).trans (h3 j), V, C, fun s hs => ⟨(World.cell?_of_block (a := ⟨g, s, none⟩) hg).trans (h4 s hs).1, ownsRow_same (h4 s hs).2 fun i hi => ?_⟩, h5⟩
  have := (h4 s hs).2.lt i hi
  exact hk i this.2 (.inr this.1)
theorem Stacks.drewN {w : World} {g base : Nat} {L : Nat → List Int} (h : Stacks w g base L) (n : Nat) : Stacks (w.drewN n) g base L := h
theorem Stacks.congr {w : World} {g base : Nat} {L L' : Nat → List Int} (h : Stacks w g base L) (he : ∀ s, s < 9 → L' s = L s) : Stacks w g base L' := by
  obtain ⟨h1, h2, h3, V, C, h4, h5⟩ := h
  exact ⟨h1, h2, h3, V, C, fun s hs => by rw [he s hs]; exact h4 s hs, h5⟩
theorem Stacks.at {w : World} {g base : Nat} {L : Nat → List Int} (h : Stacks w g base L) {s : Nat} (hs : s < 9) : ∃ (A : Option Addr) (c : Nat), w.cell? ⟨g, s, none⟩ = some (.slice A (L s).length c) ∧ w.ownsRow base 3 1 (.slice A (L s).length c) (L s).length ((L s).map (Value.int .i64)) ∧
    ∀ x w', PutPost w g s base (L s).length A (L s) x w' → Stacks w' g base (fun t => if t = s then L s ++ [x] else L t) := by
  obtain ⟨h1, h2, h3, V, C, h4, h5⟩ := h
  refine ⟨V s, C s, (h4 s hs).1, (h4 s hs).2, fun x w' ⟨A', c', p1, p2, p3, p4⟩ => ?_⟩
  refine ⟨h1, Nat.le_trans h2 p3.size, fun j => (p3.frozen j).trans (h3 j), fun t => if t = s then A' else V t, fun t => if t = s then c' else C t, fun t ht => ?_, fun t u ht hu htu => ?_⟩
  · by_cases e : t = s
    · subst e
      simp only [if_true, List.length_append, List.length_singleton]
      exact ⟨p1, p2⟩
    · simp only [if_neg e]
      refine ⟨(p3.cell t e).trans (h4 t ht).1, p3.kept (h4 t ht).2 h1 fun i hi e2 => ?_⟩
      rw [slice_block] at hi
      rcases h5 t s ht hs e with h | h
      · rw [h] at hi; cases hi
      · exact h (hi.trans e2.symm)
  · have hlt : ∀ v, v < 9 → ∀ i, (V v).map (·.block) = some i → i < w.heap.size := fun v hv i hi => ((h4 v hv).2.lt i (by rw [slice_block]; exact hi)).2
    by_cases e : t = s
    · subst e
      have hne : ¬ u = t := fun e => htu e.symm
      simp only [if_true, if_neg hne]
      rcases p4 with p4 | p4
      · rw [p4]; exact h5 t u ht hu htu
      · right
        rw [p4]
        intro e2
        have := hlt u hu _ e2.symm
        omega
    · simp only [if_neg e]
      by_cases e2 : u = s
      · subst e2
        simp only [if_true]
        rcases p4 with p4 | p4
        · rw [p4]; exact h5 t u ht hu htu
        · right
          rw [p4]
          intro e3
          have := hlt t ht _ e3
          omega
      · simp only [if_neg e2]; exact h5 t u ht hu htu

theorem PutPost.undrew {w w' : World} {q g s base n : Nat} {A : Option Addr} {xs : List Int} {x : Int} (h : PutPost (w.drewN q) g s base n A xs x w') : PutPost w g s base n A xs x w' := by
  obtain ⟨A', c', p1, p2, p3, p4⟩ := h
  exact ⟨A', c', p1, p2, ⟨p3.os, p3.tape, p3.output, p3.size, p3.block, p3.cell, p3.frozen⟩, p4⟩
def nines : Array Value := #[.slice none 0 0, .slice none 0 0, .slice none 0 0, .slice none 0 0, .slice none 0 0, .slice none 0 0, .slice none 0 0, .slice none 0 0, .slice none 0 0]
theorem nines_at {s : Nat} (h : s < 9) : nines[s]? = some (.slice none 0 0) := by
  have : ∀ s : Fin 9, nines[s.1]? = some (.slice none 0 0) := by
    intro s
    rcases s with ⟨s, hs⟩
    match s, hs with
    | 0, _ => rfl
    | 1, _ => rfl
    | 2, _ => rfl
    | 3, _ => rfl
    | 4, _ => rfl
    | 5, _ => rfl
    | 6, _ => rfl
    | 7, _ => rfl
    | 8, _ => rfl
  exact this ⟨s, h⟩
theorem Stacks.start (w : World) (t : TypeId) : Stacks (w.alloc (.cells nines t)) w.heap.size (w.heap.size + 1) (fun _ => []) := by
  refine ⟨by omega, by simp, fun j => frozen_of_row _ _ _ _ _ (heap_alloc_new w _), fun _ => none, fun _ => 0, fun s hs => ⟨?_, World.ownsRow_nil _ _ _ _⟩, fun s t _ _ _ => .inl rfl⟩
  rw [cell_of_row _ _ s _ _ _ (heap_alloc_new w _)]
  exact nines_at hs

set_option maxRecDepth 100000 in
theorem oneForEach_any (A B : Option Addr) (c0 c1 n : Nat) (ss : List Int) (w : World) (hs : Ints w w.heap.size B ss) (hl : ss.length ≤ 9000000000000000000) :
    Calls Try.prog 35 #[.slice A n c0, .slice B ss.length c1, .int .i64 9] w fun e w' => e = .returned (.bool (decide (ss.length = n) && ss.all (fun s => inR s 0 8))) ∧ w = w' := by
  have HB := Lib.hid (areBelow_any B c1 ss 9 w hs hl)
  by_cases hlen : ss.length = n
  · have HF := Lib.hid (show (decide (ss.length = n) && ss.all (fun s => inR s 0 8)) = belB 9 ss by rw [decide_eq_true hlen, Bool.true_and]; rfl)
    have ht : ((ss.length : Int) == (n : Int)) = true := by rw [hlen]; simp
    clear hlen
    go_enter Try.func35, Try.ntmps35
    go_wp2_with (go_at_call 56; (with_reducible refine HB.out.mono ?_); rintro e w' ⟨rfl, rfl⟩)
    go_ret
    exact ⟨ret_bool HF.out.symm, rfl⟩
  · have HF := Lib.hid (show (decide (ss.length = n) && ss.all (fun s => inR s 0 8)) = false by rw [decide_eq_false hlen, Bool.false_and])
    have ht : ((ss.length : Int) == (n : Int)) = false := by rw [beq_eq_false_iff_ne]; omega
    clear hlen
    go_enter Try.func35, Try.ntmps35
    go_wp2
    go_ret
    exact ⟨ret_bool HF.out.symm, rfl⟩
end Go.Proofs.Ytdgdlmpmoafkgaa
