/- Orders are sorted, plain. No condition. -/
import Derived.Test.YtlgeoilnjgojnaaO1
namespace Go.Proofs.Ytlgeoilnjgojnaa
open Go.RowKit

theorem scan_all {lt : Int → Bool} {l : List Int} {j m : Nat} (h1 : scanK lt l j ≤ m) (h2 : m < j) : lt (l.getD m 0) = true := by
  induction j with
  | zero => omega
  | succ j ih =>
    by_cases h : lt (l.getD j 0) = true
    · rw [scanK_yes h] at h1
      by_cases hm : m = j
      · subst hm; exact h
      · exact ih h1 (by omega)
    · rw [scanK_no (by simpa using h)] at h1; omega
theorem scan_stop (lt : Int → Bool) (l : List Int) (j : Nat) : scanK lt l j = 0 ∨ lt (l.getD (scanK lt l j - 1) 0) = false := by
  induction j with
  | zero => exact .inl rfl
  | succ j ih =>
    by_cases h : lt (l.getD j 0) = true
    · rw [scanK_yes h]; exact ih
    · have h' : lt (l.getD j 0) = false := by simpa using h
      rw [scanK_no h']; exact .inr (by simpa using h')
theorem getD_of {l : List Int} {m : Nat} (h : m < l.length) : l.getD m 0 = l[m] := by simp [List.getD, List.getElem?_eq_getElem h]

theorem ordL_sorted {lt : Int → Int → Bool} {key : Int → Int} {N : Nat} (hk : ∀ a b : Nat, a < N → b < N → lt a b = decide (key a < key b)) (n : Nat) (hn : n ≤ N) : (ordL lt n).Pairwise (fun a b => key a ≤ key b) := by
  induction n with
  | zero => exact List.Pairwise.nil
  | succ n ih =>
    have hs := ih (by omega)
    have hl := ordL_length lt n
    obtain ⟨l, hle⟩ : ∃ l, ordL lt n = l := ⟨_, rfl⟩
    have hmem : ∀ x ∈ l, ∃ j : Nat, j < n ∧ x = (j : Int) := fun x hx => by rw [← hle] at hx; exact ordL_mem.1 hx
    simp only [ordL, hle] at *
    obtain ⟨k, hke⟩ : ∃ k, scanK (lt n) l n = k := ⟨_, rfl⟩
    have hkn : k ≤ n := by rw [← hke]; exact scanK_le _ _ _
    have hkey : ∀ x ∈ l, lt n x = decide (key n < key x) := fun x hx => by
      obtain ⟨j, hj, rfl⟩ := hmem x hx
      exact hk n j (by omega) (by omega)
    have hafter : ∀ x ∈ l.drop k, key n ≤ key x := fun x hx => by
      obtain ⟨i, hi, rfl⟩ := List.getElem_of_mem hx
      rw [List.length_drop] at hi
      rw [List.getElem_drop]
      have h1 := scan_all (lt := lt n) (l := l) (j := n) (m := k + i) (by omega) (by omega)
      rw [getD_of (by omega), hkey _ (List.getElem_mem _)] at h1
      have := of_decide_eq_true h1
      omega
    have hbefore : ∀ x ∈ l.take k, key x ≤ key n := fun x hx => by
      obtain ⟨i, hi, rfl⟩ := List.getElem_of_mem hx
      rw [List.length_take] at hi
      rw [List.getElem_take]
      rcases scan_stop (lt n) l n with h0 | h0
      · omega
      · rw [hke, getD_of (by omega), hkey _ (List.getElem_mem _)] at h0
        have h2 := of_decide_eq_false h0
        by_cases hik : i = k - 1
        · subst hik; omega
        · have := List.pairwise_iff_getElem.1 hs i (k - 1) (by omega) (by omega) (by omega)
          omega
    rw [hke]
    have hsplit := hs
    rw [← List.take_append_drop k l, List.pairwise_append] at hsplit
    simp only [putAt]
    rw [List.pairwise_append, List.pairwise_append]
    refine ⟨⟨hsplit.1, by simp, fun a ha b hb => ?_⟩, hsplit.2.1, fun a ha b hb => ?_⟩
    · simp only [List.mem_singleton] at hb; rw [hb]; exact hbefore a ha
    · rcases List.mem_append.1 ha with ha | ha
      · exact hsplit.2.2 a ha b hb
      · simp only [List.mem_singleton] at ha; rw [ha]; exact hafter b hb

/-- A house's key. -/
def keyP (loop : Bool) (h : Int × Int) : Int := if loop = true then (if h.2 = 0 then h.1 else 100 - h.1) else h.1
theorem ltH_key {rs : List (List Int)} (hv : housesB rs = true) (loop : Bool) (a b : Nat) (ha : a < rs.length) (hb : b < rs.length) : ltH rs loop a b = decide (keyP loop (hAt rs a) < keyP loop (hAt rs b)) := by
  obtain ⟨p, s, he, h1⟩ := house_row hv ha
  obtain ⟨q, t, he', h2⟩ := house_row hv hb
  have e1 := hAt_of (z := (a : Int)) rfl ha he
  have e2 := hAt_of (z := (b : Int)) rfl hb he'
  simp only [ltH, e1, e2, earl, keyP]
  cases loop with
  | false => simp
  | true =>
    rcases (show s = 0 ∨ s = 1 by omega) with rfl | rfl
    · rcases (show t = 0 ∨ t = 1 by omega) with rfl | rfl
      · simp
      · simp; omega
    · rcases (show t = 0 ∨ t = 1 by omega) with rfl | rfl
      · simp; omega
      · simp only [Bool.true_eq_false, if_true, if_false, show ¬ (1 : Int) = 0 by omega]
        simp only [decide_eq_decide]; omega
theorem order_sorted {rs : List (List Int)} (hv : housesB rs = true) (loop : Bool) : (ordL (ltH rs loop) rs.length).Pairwise (fun a b => keyP loop (hAt rs a) ≤ keyP loop (hAt rs b)) :=
  ordL_sorted (key := fun z => keyP loop (hAt rs z)) (ltH_key hv loop) rs.length (Nat.le_refl _)
end Go.Proofs.Ytlgeoilnjgojnaa
