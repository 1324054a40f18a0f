/- The table of the fewest, plain, and as a block. No condition. -/
import Derived.Test.YtookdmdlpglbcabY3
namespace Go.Proofs.Ytookdmdlpglbcab
open Go.RowKit

def tabF (T : List Int) (i : Nat) : Int := T.getD i 0
def updT (v : List Int) (T : List Int) (x : Nat) : List Int := T.set x (v.foldl (stepS (tabF T) x) (-1))
def tabOf (v : List Int) (xs : List Nat) : List Int := xs.foldl (updT v) (List.replicate 141 0)
/-- A table of 141 numbers between -1 and m. -/
def TabOk (T : List Int) (m : Nat) : Prop := T.length = 141 ∧ ∀ i, i < 141 → -1 ≤ tabF T i ∧ tabF T i ≤ m

theorem tabOf_snoc (v : List Int) (xs : List Nat) (x : Nat) : tabOf v (xs ++ [x]) = updT v (tabOf v xs) x := by simp [tabOf, List.foldl_append]
theorem tabF_set {T : List Int} {x i : Nat} {z : Int} (hx : x < T.length) : tabF (T.set x z) i = if i = x then z else tabF T i := by
  simp only [tabF, List.getD, List.getElem?_set]
  by_cases h : x = i
  · subst h; simp [hx]
  · rw [if_neg h, if_neg (fun e => h e.symm)]
theorem foldS_bd2 {f : Nat → Int} {r m : Nat} {l : List Int} (hp : ∀ s ∈ l, 1 ≤ s) (hf : ∀ i, i < r → -1 ≤ f i ∧ f i ≤ m) : ∀ x : Int, -1 ≤ x → x ≤ m + 1 → -1 ≤ l.foldl (stepS f r) x ∧ l.foldl (stepS f r) x ≤ m + 1 := by
  induction l with
  | nil => intro x h1 h2; exact ⟨h1, h2⟩
  | cons s l ih =>
    intro x h1 h2
    rw [List.foldl_cons]
    have hs := hp s (by simp)
    refine ih (fun t ht => hp t (by simp [ht])) _ ?_ ?_
    · unfold stepS; split
      · omega
      · exact h1
    · unfold stepS; split
      · rename_i h
        have := hf (r - s.toNat) (by omega)
        omega
      · exact h2
theorem tabF_zeros (n i : Nat) : tabF (List.replicate n 0) i = 0 := by
  simp only [tabF, List.getD, List.getElem?_replicate]
  split <;> rfl
theorem TabOk.start : TabOk (List.replicate 141 0) 0 := by
  refine ⟨List.length_replicate, fun i hi => ?_⟩
  rw [tabF_zeros]; omega
theorem TabOk.upd {v T : List Int} {m x : Nat} (h : TabOk T m) (hp : ∀ s ∈ v, 1 ≤ s) (hx : x ≤ 140) : TabOk (updT v T x) (m + 1) := by
  refine ⟨by simp [updT, h.1], fun i hi => ?_⟩
  rw [updT, tabF_set (by rw [h.1]; omega)]
  split
  · have := foldS_bd2 (f := tabF T) (r := x) (m := m) hp (fun j hj => h.2 j (by omega)) (-1) (by omega) (by omega)
    omega
  · have := h.2 i hi; omega
theorem tabOk_of (v : List Int) (hp : ∀ s ∈ v, 1 ≤ s) : ∀ (n : Nat) (xs : List Nat), xs.length = n → (∀ x ∈ xs, x ≤ 140) → TabOk (tabOf v xs) n := by
  intro n
  induction n with
  | zero => intro xs h _; rw [List.length_eq_zero_iff] at h; subst h; exact TabOk.start
  | succ n ih =>
    intro xs h hx
    have hne : xs ≠ [] := by intro e; rw [e] at h; cases h
    have e := List.dropLast_concat_getLast hne
    rw [← e, tabOf_snoc]
    exact (ih xs.dropLast (by simp; omega) (fun x hm => hx x ((List.dropLast_sublist xs).subset hm))).upd hp (hx _ (List.getLast_mem hne))
/-- One after the other it is the table. -/
theorem tabOf_fw (v : List Int) (hp : ∀ s ∈ v, 1 ≤ s) : ∀ k, k ≤ 140 → ∀ i, i ≤ k → tabF (tabOf v (List.range' 1 k)) i = fw v i := by
  intro k
  induction k with
  | zero =>
    intro _ i hi
    have : i = 0 := by omega
    subst this
    rfl
  | succ k ih =>
    intro hk i hi
    rw [range'_last, tabOf_snoc, updT, Nat.add_comm 1 k]
    have hl : (tabOf v (List.range' 1 k)).length = 141 := (tabOk_of v hp k _ (by simp) (fun x hx => by simp [List.mem_range'] at hx; omega)).1
    rw [tabF_set (by omega)]
    split
    · rename_i h
      subst h
      rw [fw_succ v k hp]
      refine foldl_cong (fun x s hs => ?_) _
      have := hp s hs
      simp only [stepS]
      rw [ih (by omega) (k + 1 - s.toNat) (by omega)]
    · exact ih (by omega) i (by omega)

theorem foldl_take_succ {α : Type} (f : α → Int → α) (l : List Int) (a : α) {k : Nat} (h : k < l.length) : (l.take (k + 1)).foldl f a = f ((l.take k).foldl f a) l[k] := by
  rw [← List.take_append_getElem h, List.foldl_append]; rfl

/-! ### as a block -/
def Tab (W : World) (b : Nat) (T : List Int) : Prop := W.heap[b]? = some (.cells (T.map (Value.int .i64)).toArray 42 (0, 0))
theorem Tab.lt {W : World} {b : Nat} {T : List Int} (h : Tab W b T) : b < W.heap.size := (Array.getElem?_eq_some_iff.1 h).1
theorem Tab.cell {W : World} {b : Nat} {T : List Int} (h : Tab W b T) {i : Nat} (hi : i < T.length) : W.cell? ⟨b, i, none⟩ = some (.int .i64 (tabF T i)) := by
  simp [World.cell?, show W.heap[b]? = _ from h, tabF, hi]
theorem Tab.frozen {W : World} {b : Nat} {T : List Int} (h : Tab W b T) (i : Nat) : W.frozen? ⟨b, i, none⟩ = false := by
  simp [World.frozen?, show W.heap[b]? = _ from h]
theorem Tab.set {W : World} {b : Nat} {T : List Int} (h : Tab W b T) (i : Nat) (z : Int) : Tab (W.setCell ⟨b, i, none⟩ (.int .i64 z)) b (T.set i z) := by
  obtain ⟨hlt, hk⟩ := Array.getElem?_eq_some_iff.1 h
  show (W.heap.modify b _)[b]? = _
  rw [Array.getElem?_eq_getElem (by rw [Array.size_modify]; exact hlt), Array.getElem_modify_self, hk]
  simp
theorem Tab.kept {W W' : World} {row : Option Nat} {b : Nat} {T : List Int} (h : Tab W b T) (hg : W.grownBy W' row) (hne : some b ≠ row) : Tab W' b T := (hg.block b h.lt hne).trans h
theorem Tab.keptO {W W' : World} {row : Option Nat} {b : Nat} {T : List Int} (h : Tab W b T) (hg : W.grownBy W' row) (hr : ∀ r, row = some r → ∃ o : Obj, W.heap[r]? = some o ∧ o.isCells = false) : Tab W' b T :=
  h.kept hg (fun e => by obtain ⟨o, ho, hc⟩ := hr b e.symm; rw [show W.heap[b]? = _ from h] at ho; cases ho; cases hc)
theorem Tab.alloc {W : World} {b : Nat} {T : List Int} (h : Tab W b T) (o : Obj) : Tab (W.alloc o) b T := h.kept (World.grownBy_alloc W o none) (by simp)
theorem Tab.other {W : World} {b : Nat} {T : List Int} (h : Tab W b T) {c i : Nat} (z : Value) (hne : c ≠ b) : Tab (W.setCell ⟨c, i, none⟩ z) b T :=
  (Below.heap_setCell _ _ _ b (fun e => hne (by rw [e]))).trans h
theorem boxed_keptO {W W' : World} {row : Option Nat} {b : Nat} {t : TypeId} {x : Value} (h : Boxed W b t x) (hg : W.grownBy W' row) (hr : ∀ r, row = some r → ∃ o : Obj, W.heap[r]? = some o ∧ o.isCells = false) : Boxed W' b t x :=
  h.kept hg (fun e => by obtain ⟨o, ho, hc⟩ := hr b e.symm; rw [show W.heap[b]? = _ from h] at ho; cases ho; cases hc)
theorem boxed_otherO {W : World} {b : Nat} {t : TypeId} {x : Value} (h : Boxed W b t x) {c i : Nat} (z : Value) (hne : c ≠ b) : Boxed (W.setCell ⟨c, i, none⟩ z) b t x :=
  (Below.heap_setCell _ _ _ b (fun e => hne (by rw [e]))).trans h
end Go.Proofs.Ytookdmdlpglbcab
