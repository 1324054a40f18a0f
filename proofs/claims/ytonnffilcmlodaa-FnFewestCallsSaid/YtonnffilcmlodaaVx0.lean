/- Calls that are tried, plain. No condition. -/
import Derived.Test.YtonnffilcmlodaaVa
namespace Go.Proofs.Ytonnffilcmlodaa
open Go.RowKit

/-- Who tells whom, of n. -/
def pairsC (n : Nat) : List (Nat × Nat) := (List.range n).flatMap fun o => (List.range o).map fun i => (i, o)
def allB (r : List Int) : Bool := r.all fun z => z == allN r.length
def behindR (r : List Int) : List (List Int) := (List.range r.length).flatMap fun o => (List.range o).map fun i => told r i o
def behindL (rs : List (List Int)) : List (List Int) := rs.flatMap behindR
/-- What may be known behind t calls: the program's list. -/
def lvI (n : Nat) : Nat → List (List Int)
  | 0 => [own0 n]
  | t + 1 => behindL (lvI n t)
/-- The document's lists. -/
def numI (r : List Int) : Int := r.foldl (fun o z => o * 16 + z) 0
def addS (st : List (List Int) × List Int) (row : List Int) : List (List Int) × List Int := if numI row ∈ st.2 then st else (st.1 ++ [row], st.2 ++ [numI row])
def rowS (n : Nat) (st : List (List Int) × List Int) (r : List Int) : List (List Int) × List Int :=
  (List.range n).foldl (fun st a => (List.range a).foldl (fun st b => addS st (told r a b)) st) st
def stepS (n : Nat) (now : List (List Int)) (seen : List Int) : List (List Int) × List Int := now.foldl (rowS n) ([], seen)
def lvS (n : Nat) : Nat → List (List Int) × List Int
  | 0 => ([own0 n], [numI (own0 n)])
  | t + 1 => stepS n (lvS n t).1 (lvS n t).2
theorem lvI_facts : ∀ n : Fin 5, 1 ≤ n.val → (∀ t : Fin 5, t.val < fewC n.val → (lvI n.val t.val).any allB = false) ∧ (lvI n.val (fewC n.val)).any allB = true ∧ (∀ t : Fin 5, t.val ≤ fewC n.val → (lvI n.val t.val).length ≤ 1296) := by decide +kernel
theorem lvS_facts : ∀ n : Fin 5, 1 ≤ n.val → (∀ t : Fin 5, t.val < fewC n.val → (lvS n.val t.val).1.any allB = false) ∧ (lvS n.val (fewC n.val)).1.any allB = true ∧ (∀ t : Fin 5, t.val ≤ fewC n.val → (lvS n.val t.val).1.length ≤ 1000 ∧ (lvS n.val t.val).2.length ≤ 1000) := by decide +kernel
theorem behindR_sets {n : Nat} {r : List Int} (h : Sets n r) : ∀ x ∈ behindR r, Sets n x := fun x hx => by
  obtain ⟨o, _, h2⟩ := List.mem_flatMap.1 hx
  obtain ⟨i, _, rfl⟩ := List.mem_map.1 h2
  exact h.told _ _
theorem behindL_sets {n : Nat} {rs : List (List Int)} (h : ∀ r ∈ rs, Sets n r) : ∀ x ∈ behindL rs, Sets n x := fun x hx => by
  obtain ⟨r, h1, h2⟩ := List.mem_flatMap.1 hx
  exact behindR_sets (h r h1) x h2
theorem lvI_sets (n t : Nat) : ∀ r ∈ lvI n t, Sets n r := by
  induction t with
  | zero => intro r hr; simp only [lvI, List.mem_singleton] at hr; rw [hr]; exact own0_sets n
  | succ t ih => exact behindL_sets ih
theorem addS_sets {n : Nat} {st : List (List Int) × List Int} {row : List Int} (h : ∀ r ∈ st.1, Sets n r) (hr : Sets n row) : ∀ r ∈ (addS st row).1, Sets n r := by
  unfold addS; split
  · exact h
  · intro r hm
    rcases List.mem_append.1 hm with hm | hm
    · exact h r hm
    · simp only [List.mem_singleton] at hm; rw [hm]; exact hr
theorem inner_sets {n a : Nat} {r : List Int} (hr : Sets n r) (l : List Nat) : ∀ st : List (List Int) × List Int, (∀ x ∈ st.1, Sets n x) → ∀ x ∈ (l.foldl (fun st b => addS st (told r a b)) st).1, Sets n x := by
  induction l with
  | nil => exact fun _ h => h
  | cons b l ih => exact fun st h => ih _ (addS_sets h (hr.told _ _))
theorem rowS_sets {n : Nat} {r : List Int} (hr : Sets n r) (l : List Nat) : ∀ st : List (List Int) × List Int, (∀ x ∈ st.1, Sets n x) → ∀ x ∈ (l.foldl (fun st a => (List.range a).foldl (fun st b => addS st (told r a b)) st) st).1, Sets n x := by
  induction l with
  | nil => exact fun _ h => h
  | cons b l ih => exact fun st h => ih _ (inner_sets hr _ _ h)
theorem stepS_sets {n : Nat} (l : List (List Int)) : ∀ st : List (List Int) × List Int, (∀ r ∈ l, Sets n r) → (∀ x ∈ st.1, Sets n x) → ∀ x ∈ (l.foldl (rowS n) st).1, Sets n x := by
  induction l with
  | nil => exact fun _ _ h => h
  | cons r l ih => exact fun st hl h => ih _ (fun x hx => hl x (by simp [hx])) (rowS_sets (hl r (by simp)) _ _ h)
theorem lvS_sets (n t : Nat) : ∀ r ∈ (lvS n t).1, Sets n r := by
  induction t with
  | zero => intro r hr; simp only [lvS, List.mem_singleton] at hr; rw [hr]; exact own0_sets n
  | succ t ih => exact stepS_sets _ _ ih (fun x hx => by simp at hx)
end Go.Proofs.Ytonnffilcmlodaa
