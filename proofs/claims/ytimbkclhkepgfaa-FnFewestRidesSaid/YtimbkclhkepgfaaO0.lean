/- Orders by insertion, plain. No condition. -/
import Derived.Test.YtimbkclhkepgfaaAid
namespace Go.Proofs.Ytimbkclhkepgfaa
open Go.RowKit

/-- From the end down, past all that lt holds of. -/
def scanK (lt : Int → Bool) (l : List Int) : Nat → Nat
  | 0 => 0
  | k + 1 => if lt (l.getD k 0) = true then scanK lt l k else k + 1
theorem scanK_le (lt : Int → Bool) (l : List Int) (k : Nat) : scanK lt l k ≤ k := by
  induction k with
  | zero => exact Nat.le_refl _
  | succ k ih => simp only [scanK]; split <;> omega
theorem scanK_yes {lt : Int → Bool} {l : List Int} {k : Nat} (h : lt (l.getD k 0) = true) : scanK lt l (k + 1) = scanK lt l k := by simp only [scanK, h, if_true]
theorem scanK_no {lt : Int → Bool} {l : List Int} {k : Nat} (h : lt (l.getD k 0) = false) : scanK lt l (k + 1) = k + 1 := by rw [scanK, if_neg (by rw [h]; simp)]
/-- x put in at place k. -/
def putAt (l : List Int) (k : Nat) (x : Int) : List Int := l.take k ++ [x] ++ l.drop k
theorem putAt_length (l : List Int) (k : Nat) (x : Int) : (putAt l k x).length = l.length + 1 := by simp [putAt]; omega
/-- The numbers below n, put in one after the other. -/
def ordL (lt : Int → Int → Bool) : Nat → List Int
  | 0 => []
  | n + 1 => putAt (ordL lt n) (scanK (lt (n : Int)) (ordL lt n) n) (n : Int)
theorem ordL_length (lt : Int → Int → Bool) (n : Nat) : (ordL lt n).length = n := by
  induction n with
  | zero => rfl
  | succ n ih => simp only [ordL, putAt_length, ih]
theorem ordL_perm (lt : Int → Int → Bool) (n : Nat) : (ordL lt n).Perm ((List.range n).map fun j : Nat => (j : Int)) := by
  induction n with
  | zero => exact List.Perm.refl _
  | succ n ih =>
    rw [List.range_succ, List.map_append]
    simp only [ordL, putAt, List.map_cons, List.map_nil]
    have h : ((ordL lt n).take (scanK (lt (n : Int)) (ordL lt n) n) ++ [(n : Int)] ++ (ordL lt n).drop (scanK (lt (n : Int)) (ordL lt n) n)).Perm ([(n : Int)] ++ ((ordL lt n).take (scanK (lt (n : Int)) (ordL lt n) n) ++ (ordL lt n).drop (scanK (lt (n : Int)) (ordL lt n) n))) := by
      rw [← List.append_assoc]
      exact List.Perm.append_right _ List.perm_append_comm
    rw [List.take_append_drop] at h
    exact h.trans (List.perm_append_comm.trans (List.Perm.append_right _ ih))
theorem ordL_mem {lt : Int → Int → Bool} {n : Nat} {x : Int} : x ∈ ordL lt n ↔ ∃ j : Nat, j < n ∧ x = (j : Int) := by
  rw [(ordL_perm lt n).mem_iff, List.mem_map]
  constructor
  · rintro ⟨j, hj, rfl⟩; exact ⟨j, List.mem_range.1 hj, rfl⟩
  · rintro ⟨j, hj, rfl⟩; exact ⟨j, List.mem_range.2 hj, rfl⟩
theorem ordL_get {lt : Int → Int → Bool} {n k : Nat} (hk : k < n) : ∃ j : Nat, (ordL lt n).getD k 0 = (j : Int) ∧ j < n := by
  have hl := ordL_length lt n
  have hm : (ordL lt n)[k]'(by omega) ∈ ordL lt n := List.getElem_mem _
  obtain ⟨j, hj, he⟩ := ordL_mem.1 hm
  refine ⟨j, ?_, hj⟩
  simp only [List.getD, List.getElem?_eq_getElem (show k < (ordL lt n).length by omega), Option.getD_some]
  exact he
theorem ordL_nodup (lt : Int → Int → Bool) (n : Nat) : (ordL lt n).Nodup := by
  rw [(ordL_perm lt n).nodup_iff]
  refine List.Pairwise.map _ (fun a b h => ?_) List.nodup_range
  exact fun e => h (by omega)

/-- A row while x goes down from its end: rest behind. -/
def slide (l : List Int) (j : Nat) (x : Int) (t : List Int) : List Int := putAt l j x ++ t
theorem slide_length (l t : List Int) (j : Nat) (x : Int) : (slide l j x t).length = l.length + 1 + t.length := by simp [slide, putAt_length]
theorem slide_at (l t : List Int) (j : Nat) (x : Int) (hj : j ≤ l.length) : (slide l j x t)[j]? = some x := by
  simp only [slide, putAt]
  rw [List.getElem?_append_left (by simp; omega), List.getElem?_append_left (by simp; omega), List.getElem?_append_right (by simp; omega), List.length_take, Nat.min_eq_left hj, Nat.sub_self]
  rfl
theorem slide_before (l t : List Int) (j : Nat) (x : Int) (hj : j < l.length) : (slide l (j + 1) x t)[j]? = some (l.getD j 0) := by
  simp only [slide, putAt]
  rw [List.getElem?_append_left (by simp; omega), List.getElem?_append_left (by simp; omega), List.getElem?_append_left (by simp; omega), List.getElem?_take, if_pos (by omega)]
  simp [List.getD, List.getElem?_eq_getElem hj]
theorem slide_swap (l t : List Int) (j : Nat) (x : Int) (hj : j < l.length) : ((slide l (j + 1) x t).set (j + 1) (l.getD j 0)).set j x = slide l j x t := by
  apply List.ext_getElem?
  intro i
  have hl : (slide l (j + 1) x t).length = l.length + 1 + t.length := slide_length ..
  rw [List.getElem?_set, List.getElem?_set, List.length_set, hl]
  have hd : l.getD j 0 = l[j] := by simp [List.getD, List.getElem?_eq_getElem hj]
  by_cases h1 : j = i
  · subst h1
    rw [if_pos rfl, if_pos (by omega), slide_at l t j x (by omega)]
  · rw [if_neg h1]
    by_cases h2 : j + 1 = i
    · subst h2
      rw [if_pos rfl, if_pos (by omega), hd]
      simp only [slide, putAt]
      rw [List.getElem?_append_left (by simp; omega), List.getElem?_append_right (by simp; omega), List.getElem?_drop]
      simp only [List.length_append, List.length_take, List.length_cons, List.length_nil]
      rw [Nat.min_eq_left (by omega), Nat.sub_self, Nat.add_zero, List.getElem?_eq_getElem hj]
    · rw [if_neg h2]
      simp only [slide, putAt]
      by_cases h3 : i < j
      · rw [List.getElem?_append_left (by simp; omega), List.getElem?_append_left (by simp; omega), List.getElem?_append_left (by simp; omega), List.getElem?_append_left (by simp; omega), List.getElem?_append_left (by simp; omega), List.getElem?_append_left (by simp; omega), List.getElem?_take, List.getElem?_take, if_pos (by omega), if_pos (by omega)]
      · by_cases h4 : i < l.length + 1
        · rw [List.getElem?_append_left (by simp; omega), List.getElem?_append_right (by simp; omega), List.getElem?_append_left (by simp; omega), List.getElem?_append_right (by simp; omega), List.getElem?_drop, List.getElem?_drop]
          simp only [List.length_append, List.length_take, List.length_cons, List.length_nil]
          congr 1; omega
        · rw [List.getElem?_append_right (by simp; omega), List.getElem?_append_right (by simp; omega)]
          simp only [List.length_append, List.length_take, List.length_cons, List.length_nil, List.length_drop]
          congr 1; omega
theorem slide_end (l t : List Int) (x : Int) : slide l l.length x t = l ++ x :: t := by simp [slide, putAt]
end Go.Proofs.Ytimbkclhkepgfaa
