/- The runs of a row, plain. No condition. -/
import Derived.Test.YtempfagjbpnlcaaS0
namespace Go.Proofs.Ytempfagjbpnlcaa
open Go.RowKit

/-- The place of a letter. -/
def pl (zs : List Int) (x : Int) : Nat := zs.idxOf x
/-- The number of the run of letter x. -/
def runNo (zs : List Int) : Nat → Nat
  | 0 => 0
  | x + 1 => runNo zs x + if pl zs ((x + 1 : Nat) : Int) < pl zs (x : Int) then 1 else 0
def runsL (zs : List Int) : List Int := (List.range zs.length).map fun x => (runNo zs x : Int)
def runsN (zs : List Int) : Int := if rowB 9 zs then (if zs.length = 0 then 0 else (runNo zs (zs.length - 1) : Int) + 1) else -1

theorem runNo_le (zs : List Int) (x : Nat) : runNo zs x ≤ x := by
  induction x with
  | zero => simp [runNo]
  | succ n ih => simp only [runNo]; split <;> omega

theorem rowB_len {m : Nat} {zs : List Int} (h : rowB m zs = true) : zs.length ≤ m := by
  simp only [rowB, Bool.and_eq_true, decide_eq_true_eq] at h; exact h.1
theorem rowB_at {m : Nat} {zs : List Int} (h : rowB m zs = true) {k : Nat} (hk : k < zs.length) : (0 ≤ zs[k] ∧ zs[k] < zs.length) ∧ ¬ zs[k] ∈ zs.take k := by
  simp only [rowB, Bool.and_eq_true] at h
  exact okAt_in hk (all_range h.2 hk)

theorem rowB_nodup {m : Nat} {zs : List Int} (h : rowB m zs = true) : ∀ i j : Nat, (hi : i < zs.length) → (hj : j < zs.length) → zs[i] = zs[j] → i = j := by
  have key : ∀ i j : Nat, (hi : i < zs.length) → (hj : j < zs.length) → i < j → zs[i] ≠ zs[j] := by
    intro i j hi hj hij he
    refine (rowB_at h hj).2 ?_
    rw [← he]
    exact List.mem_take_iff_getElem.2 ⟨i, by omega, rfl⟩
  intro i j hi hj he
  rcases Nat.lt_trichotomy i j with hlt | rfl | hgt
  · exact absurd he (key i j hi hj hlt)
  · rfl
  · exact absurd he.symm (key j i hj hi hgt)

theorem pl_at {m : Nat} {zs : List Int} (h : rowB m zs = true) {k : Nat} (hk : k < zs.length) : pl zs zs[k] = k := by
  have h1 : pl zs zs[k] < zs.length := List.idxOf_lt_length_of_mem (List.getElem_mem hk)
  have h2 : zs[pl zs zs[k]] = zs[k] := List.getElem_idxOf h1
  exact rowB_nodup h _ _ h1 hk h2

theorem nodup_le {l l' : List Nat} (hn : l.Nodup) (hs : ∀ y ∈ l, y ∈ l') : l.length ≤ l'.length := by
  induction l generalizing l' with
  | nil => simp
  | cons a l ih =>
    obtain ⟨h1, h2⟩ := List.nodup_cons.1 hn
    have ha : a ∈ l' := hs a (by simp)
    have := ih (l' := l'.erase a) h2 (fun y hy => (List.mem_erase_of_ne (fun (e : y = a) => h1 (by rw [← e]; exact hy))).2 (hs y (by simp [hy])))
    rw [List.length_erase_of_mem ha] at this
    have := List.length_pos_of_mem ha
    simp only [List.length_cons]
    omega

/-- Every letter stands somewhere: that is a matter of number. -/
theorem row_mem {m : Nat} {zs : List Int} (h : rowB m zs = true) {x : Nat} (hx : x < zs.length) : (x : Int) ∈ zs := by
  have hn : (zs.map Int.toNat).Nodup := by
    rw [List.nodup_iff_pairwise_ne, List.pairwise_iff_getElem]
    intro i j hi hj hij he
    simp only [List.length_map] at hi hj
    simp only [List.getElem_map] at he
    have h1 := (rowB_at h hi).1
    have h2 := (rowB_at h hj).1
    have := rowB_nodup h i j hi hj (by omega)
    omega
  have hin : ∀ y ∈ zs.map Int.toNat, y < zs.length := by
    intro y hy
    obtain ⟨z, hz, rfl⟩ := List.mem_map.1 hy
    obtain ⟨i, hi, rfl⟩ := List.getElem_of_mem hz
    have h1 := (rowB_at h hi).1
    omega
  have hxm : x ∈ zs.map Int.toNat := by
    refine Decidable.by_contra fun hno => ?_
    have := nodup_le (l' := (List.range zs.length).erase x) hn (fun y hy => (List.mem_erase_of_ne (fun (e : y = x) => hno (by rw [← e]; exact hy))).2 (List.mem_range.2 (hin y hy)))
    rw [List.length_erase_of_mem (List.mem_range.2 hx)] at this
    simp at this
    omega
  obtain ⟨z, hz, hzx⟩ := List.mem_map.1 hxm
  obtain ⟨i, hi, rfl⟩ := List.getElem_of_mem hz
  have h1 := (rowB_at h hi).1
  have : zs[i] = (x : Int) := by omega
  rw [← this]; exact hz

theorem pl_lt {m : Nat} {zs : List Int} (h : rowB m zs = true) {x : Nat} (hx : x < zs.length) : pl zs (x : Int) < zs.length :=
  List.idxOf_lt_length_of_mem (row_mem h hx)
theorem pl_get {m : Nat} {zs : List Int} (h : rowB m zs = true) {x : Nat} (hx : x < zs.length) : zs[pl zs (x : Int)]'(pl_lt h hx) = (x : Int) :=
  List.getElem_idxOf (pl_lt h hx)

theorem runsL_length (zs : List Int) : (runsL zs).length = zs.length := by simp [runsL]
theorem runsL_get (zs : List Int) {x : Nat} (h : x < zs.length) : (runsL zs)[x]'(by rw [runsL_length]; exact h) = (runNo zs x : Int) := by simp [runsL]
end Go.Proofs.Ytempfagjbpnlcaa
