/- Orders are sorted, plain; coaches by when they leave. No condition. -/
import Derived.Test.YtimbkclhkepgfaaK0
import Derived.Test.YtimbkclhkepgfaaMark
namespace Go.Proofs.Ytimbkclhkepgfaa
open Go.RowKit


theorem scanC_all {lt : Int → Bool} {l : List Int} {j m : Nat} (h1 : scanK lt l j ≤ m) (h2 : m < j) : lt (l.getD m 0) = true := by
  induction j with
  | zero => omega
  | succ j ih =>
    by_cases h : lt (l.getD j 0) = true
    · rw [scanK_yes h] at h1
      by_cases hm : m = j
      · subst hm; exact h
      · exact ih h1 (by omega)
    · rw [scanK_no (by simpa using h)] at h1; omega
theorem scanC_stop (lt : Int → Bool) (l : List Int) (j : Nat) : scanK lt l j = 0 ∨ lt (l.getD (scanK lt l j - 1) 0) = false := by
  induction j with
  | zero => exact .inl rfl
  | succ j ih =>
    by_cases h : lt (l.getD j 0) = true
    · rw [scanK_yes h]; exact ih
    · have h' : lt (l.getD j 0) = false := by simpa using h
      rw [scanK_no h']; exact .inr (by simpa using h')
theorem getDC_of {l : List Int} {m : Nat} (h : m < l.length) : l.getD m 0 = l[m] := by simp [List.getD, List.getElem?_eq_getElem h]

theorem ordC_sorted {lt : Int → Int → Bool} {key : Int → Int} {N : Nat} (hk : ∀ a b : Nat, a < N → b < N → lt a b = decide (key a < key b)) (n : Nat) (hn : n ≤ N) : (ordL lt n).Pairwise (fun a b => key a ≤ key b) := by
  induction n with
  | zero => exact List.Pairwise.nil
  | succ n ih =>
    have hs := ih (by omega)
    have hl := ordL_length lt n
    obtain ⟨l, hle⟩ : ∃ l, ordL lt n = l := ⟨_, rfl⟩
    have hmem : ∀ x ∈ l, ∃ j : Nat, j < n ∧ x = (j : Int) := fun x hx => by rw [← hle] at hx; exact ordL_mem.1 hx
    simp only [ordL, hle] at *
    obtain ⟨k, hke⟩ : ∃ k, scanK (lt n) l n = k := ⟨_, rfl⟩
    have hkn : k ≤ n := by rw [← hke]; exact scanK_le _ _ _
    have hkey : ∀ x ∈ l, lt n x = decide (key n < key x) := fun x hx => by
      obtain ⟨j, hj, rfl⟩ := hmem x hx
      exact hk n j (by omega) (by omega)
    have hafter : ∀ x ∈ l.drop k, key n ≤ key x := fun x hx => by
      obtain ⟨i, hi, rfl⟩ := List.getElem_of_mem hx
      rw [List.length_drop] at hi
      rw [List.getElem_drop]
      have h1 := scanC_all (lt := lt n) (l := l) (j := n) (m := k + i) (by omega) (by omega)
      rw [getDC_of (by omega), hkey _ (List.getElem_mem _)] at h1
      have := of_decide_eq_true h1
      omega
    have hbefore : ∀ x ∈ l.take k, key x ≤ key n := fun x hx => by
      obtain ⟨i, hi, rfl⟩ := List.getElem_of_mem hx
      rw [List.length_take] at hi
      rw [List.getElem_take]
      rcases scanC_stop (lt n) l n with h0 | h0
      · omega
      · rw [hke, getDC_of (by omega), hkey _ (List.getElem_mem _)] at h0
        have h2 := of_decide_eq_false h0
        by_cases hik : i = k - 1
        · subst hik; omega
        · have := List.pairwise_iff_getElem.1 hs i (k - 1) (by omega) (by omega) (by omega)
          omega
    rw [hke]
    have hsplit := hs
    rw [← List.take_append_drop k l, List.pairwise_append] at hsplit
    simp only [putAt]
    rw [List.pairwise_append, List.pairwise_append]
    refine ⟨⟨hsplit.1, by simp, fun a ha b hb => ?_⟩, hsplit.2.1, fun a ha b hb => ?_⟩
    · simp only [List.mem_singleton] at hb; rw [hb]; exact hbefore a ha
    · rcases List.mem_append.1 ha with ha | ha
      · exact hsplit.2.2 a ha b hb
      · simp only [List.mem_singleton] at ha; rw [ha]; exact hafter b hb

/-- The coach by its number. -/
def cAt (cs : List Coach) (j : Int) : Coach := cs.getD j.toNat ⟨0, 0, 0, 0⟩
theorem cAt_of {cs : List Coach} {j : Nat} (h : j < cs.length) : cAt cs (j : Int) = cs[j] := by
  simp [cAt, List.getD, List.getElem?_eq_getElem h]
def ltC (cs : List Coach) (i j : Int) : Bool := decide ((cAt cs i).lv < (cAt cs j).lv)
def sortC (cs : List Coach) : List Coach := (ordL (ltC cs) cs.length).map (cAt cs)
theorem sortC_length (cs : List Coach) : (sortC cs).length = cs.length := by simp [sortC, ordL_length]
theorem cAt_all (cs : List Coach) : (upFrom 0 cs.length).map (cAt cs) = cs := by
  apply List.ext_getElem
  · simp [upFrom_length]
  · intro i h1 h2
    rw [List.getElem_map, upFrom_get _ _ _ h2, Int.zero_add, cAt_of h2]
theorem sortC_mem {cs : List Coach} {c : Coach} : c ∈ sortC cs ↔ c ∈ cs := by
  simp only [sortC, List.mem_map]
  constructor
  · rintro ⟨x, hx, rfl⟩
    obtain ⟨j, hj, rfl⟩ := ordL_mem.1 hx
    rw [cAt_of hj]; exact List.getElem_mem hj
  · intro h
    obtain ⟨j, hj, rfl⟩ := List.getElem_of_mem h
    exact ⟨(j : Int), ordL_mem.2 ⟨j, hj, rfl⟩, cAt_of hj⟩
theorem sortC_sorted (cs : List Coach) : (sortC cs).Pairwise (fun a b => a.lv ≤ b.lv) := by
  unfold sortC
  rw [List.pairwise_map]
  exact ordC_sorted (key := fun z => (cAt cs z).lv) (N := cs.length) (fun a b _ _ => rfl) cs.length (Nat.le_refl _)
theorem sortC_ok {cs : List Coach} (h : ∀ c ∈ cs, c.Ok) : ∀ c ∈ sortC cs, c.Ok := fun c hc => h c (sortC_mem.1 hc)
end Go.Proofs.Ytimbkclhkepgfaa
