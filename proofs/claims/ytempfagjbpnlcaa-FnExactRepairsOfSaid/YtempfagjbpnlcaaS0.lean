/- Rows of letters, plain. No condition. -/
import Derived.Test.YtempfagjbpnlcaaAid
namespace Go.Proofs.Ytempfagjbpnlcaa
open Go.RowKit

theorem all_range_succ {k : Nat} {p : Nat → Bool} : (List.range (k + 1)).all p = ((List.range k).all p && p k) := by
  rw [List.range_succ, List.all_append]; simp
theorem all_range {n : Nat} {p : Nat → Bool} (h : (List.range n).all p = true) {k : Nat} (hk : k < n) : p k = true :=
  List.all_eq_true.1 h k (List.mem_range.2 hk)
theorem all_range_no {n : Nat} {p : Nat → Bool} {k : Nat} (hk : k < n) (h : p k = false) : (List.range n).all p = false := by
  rw [List.all_eq_false]; exact ⟨k, List.mem_range.2 hk, by simp [h]⟩

/-- The letter at place i is in range and not among those ahead of it. -/
def okAt (zs : List Int) (i : Nat) : Bool := decide (0 ≤ zs.getD i 0 ∧ zs.getD i 0 < zs.length) && !(zs.take i).contains (zs.getD i 0)
def rowB (m : Nat) (zs : List Int) : Bool := decide (zs.length ≤ m) && (List.range zs.length).all (okAt zs)

theorem getD_get {zs : List Int} {k : Nat} (h : k < zs.length) : zs.getD k 0 = zs[k] := by simp [List.getD, List.getElem?_eq_getElem h]

theorem okAt_yes {zs : List Int} {k : Nat} (hk : k < zs.length) (h : 0 ≤ zs[k] ∧ zs[k] < zs.length) (hn : ¬ zs[k] ∈ zs.take k) : okAt zs k = true := by
  simp only [okAt, getD_get hk, Bool.and_eq_true, decide_eq_true_eq, Bool.not_eq_true', List.contains_eq_mem, decide_eq_false_iff_not]
  exact ⟨h, hn⟩
theorem okAt_out {zs : List Int} {k : Nat} (hk : k < zs.length) (h : ¬ (0 ≤ zs[k] ∧ zs[k] < zs.length)) : okAt zs k = false := by
  simp only [okAt, getD_get hk, decide_eq_false h, Bool.false_and]
theorem okAt_twice {zs : List Int} {k : Nat} (hk : k < zs.length) (h : zs[k] ∈ zs.take k) : okAt zs k = false := by
  simp only [okAt, getD_get hk, List.contains_eq_mem, decide_eq_true h, Bool.not_true, Bool.and_false]
theorem okAt_in {zs : List Int} {k : Nat} (hk : k < zs.length) (h : okAt zs k = true) : (0 ≤ zs[k] ∧ zs[k] < zs.length) ∧ ¬ zs[k] ∈ zs.take k := by
  simp only [okAt, getD_get hk, Bool.and_eq_true, decide_eq_true_eq, Bool.not_eq_true', List.contains_eq_mem, decide_eq_false_iff_not] at h
  exact h

theorem rowB_no {m : Nat} {zs : List Int} {k : Nat} (hk : k < zs.length) (h : okAt zs k = false) : rowB m zs = false := by
  simp [rowB, all_range_no hk h]
theorem rowB_yes {m : Nat} {zs : List Int} (hl : zs.length ≤ m) (h : (List.range zs.length).all (okAt zs) = true) : rowB m zs = true := by
  simp only [rowB, hl, decide_true, Bool.true_and, h]
theorem rowB_long {m : Nat} {zs : List Int} (h : ¬ zs.length ≤ m) : rowB m zs = false := by
  simp only [rowB, decide_eq_false h, Bool.false_and]

/-- The bits of S are the letters of l. -/
def bitsOf (S : Nat) (l : List Int) : Prop := S < 512 ∧ ∀ y : Nat, y < 9 → (S / 2 ^ y % 2 = 1 ↔ (y : Int) ∈ l)

theorem bits_step_fin : ∀ S : Fin 512, ∀ z : Fin 9, S.1 / 2 ^ z.1 % 2 ≠ 1 → S.1 + 2 ^ z.1 < 512 ∧ ∀ y : Fin 9, ((S.1 + 2 ^ z.1) / 2 ^ y.1 % 2 = 1 ↔ (S.1 / 2 ^ y.1 % 2 = 1 ∨ y = z)) := by decide +kernel

theorem bits_zero : bitsOf 0 [] := ⟨by omega, fun y _ => by simp⟩
theorem bits_snoc {S z : Nat} {l : List Int} (h : bitsOf S l) (hz : z < 9) (hn : ¬ (z : Int) ∈ l) : bitsOf (S + 2 ^ z) (l ++ [(z : Int)]) := by
  obtain ⟨h1, h2⟩ := h
  have := bits_step_fin ⟨S, h1⟩ ⟨z, hz⟩ (fun e => hn ((h2 z hz).1 e))
  refine ⟨this.1, fun y hy => ?_⟩
  have h3 := this.2 ⟨y, hy⟩
  simp only [Fin.mk.injEq] at h3
  rw [h3, h2 y hy, List.mem_append, List.mem_singleton]
  constructor
  · rintro (h | h)
    · exact .inl h
    · exact .inr (by omega)
  · rintro (h | h)
    · exact .inl h
    · exact .inr (by omega)

theorem pow2_le {y : Nat} (h : y < 9) : 1 ≤ 2 ^ y ∧ 2 ^ y ≤ 256 := by
  have : ∀ y : Fin 9, 1 ≤ 2 ^ y.1 ∧ 2 ^ y.1 ≤ 256 := by decide
  exact this ⟨y, h⟩

/-- A row told by a rule. -/
def tab (n : Nat) (f : Nat → Int) : List Int := (List.range n).map f
theorem tab_length (n : Nat) (f : Nat → Int) : (tab n f).length = n := by simp [tab]
theorem tab_get {n : Nat} {f : Nat → Int} {k : Nat} (h : k < n) : (tab n f)[k]'(by rw [tab_length]; exact h) = f k := by simp [tab]
theorem tab_congr {n : Nat} {f g : Nat → Int} (h : ∀ k, k < n → f k = g k) : tab n f = tab n g := by
  unfold tab
  exact List.map_congr_left (fun k hk => h k (List.mem_range.1 hk))
theorem tab_set {n : Nat} {f : Nat → Int} {k : Nat} {v : Int} : (tab n f).set k v = tab n (fun j => if j = k then v else f j) := by
  apply List.ext_getElem
  · simp [tab]
  · intro i h1 h2
    simp only [tab, List.length_map, List.length_range] at h2
    rw [List.getElem_set]
    simp only [tab_get h2]
    by_cases h : k = i
    · rw [if_pos h, if_pos h.symm]
    · rw [if_neg h, if_neg (fun (e : i = k) => h e.symm)]
theorem tab_set' {n : Nat} {f g : Nat → Int} {k : Nat} {v : Int} (h : ∀ j, j < n → g j = if j = k then v else f j) : (tab n f).set k v = tab n g := by
  rw [tab_set]; exact tab_congr fun j hj => (h j hj).symm
theorem tab_zero (n : Nat) : List.replicate n (0 : Int) = tab n (fun _ => 0) := by
  apply List.ext_getElem <;> simp [tab]
theorem tab_vals_get {n : Nat} {f : Nat → Int} {k : Nat} (h : k < n) : ((tab n f).map (Value.int .i64))[k]? = some (.int .i64 (f k)) := by
  rw [List.getElem?_map, List.getElem?_eq_getElem (by rw [tab_length]; exact h), tab_get h]; rfl
end Go.Proofs.Ytempfagjbpnlcaa
