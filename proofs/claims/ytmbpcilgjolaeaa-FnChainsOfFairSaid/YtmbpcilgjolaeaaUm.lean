/- Chains that are tried one after the other, plain. No condition. -/
import Derived.Test.YtmbpcilgjolaeaaU9
namespace Go.Proofs.Ytmbpcilgjolaeaa
open Go.RowKit

def ints (l : List Nat) : List Int := l.map fun (x : Nat) => (x : Int)
theorem ints_len (l : List Nat) : (ints l).length = l.length := by simp [ints]
abbrev Best := List Nat × Int
def tryOne (D : Nat → Nat → Int) (i : Nat) (s : Best) (c : List Nat) : Best := if csum D i c < s.2 then (c, csum D i c) else s
def tryN (D : Nat → Nat → Int) (n i k b : Nat) (s : Best) : Nat → Best
  | 0 => s
  | r + 1 => tryOne D i (tryN D n i k b s r) (digs n b r ++ [k])
def tryB (D : Nat → Nat → Int) (n i k : Nat) : Nat → Best
  | 0 => ([k], D i k)
  | b + 1 => tryN D n i k (b + 1) (tryB D n i k b) (n ^ (b + 1))
section
variable {D : Nat → Nat → Int} {n i k b : Nat} {s : Best} {best : Int} {T : List Nat}
theorem tryN_above (h : best < s.2) : ∀ {r : Nat}, (∀ r', r' < r → best < csum D i (digs n b r' ++ [k])) → best < (tryN D n i k b s r).2
  | 0, _ => h
  | r + 1, hr => by
    have h1 := tryN_above h (r := r) (fun r' h' => hr r' (by omega))
    have h2 := hr r (by omega)
    show best < (tryOne D i _ _).2
    unfold tryOne
    split
    · exact h2
    · exact h1
theorem tryN_stay (h : s.2 = best) : ∀ {r : Nat}, (∀ r', r' < r → best ≤ csum D i (digs n b r' ++ [k])) → tryN D n i k b s r = s
  | 0, _ => rfl
  | r + 1, hr => by
    have h1 := tryN_stay h (r := r) (fun r' h' => hr r' (by omega))
    have h2 := hr r (by omega)
    show tryOne D i (tryN D n i k b s r) _ = s
    rw [h1]
    unfold tryOne
    rw [if_neg (by omega)]
theorem tryN_hit (h : best < s.2) {r0 : Nat} (h0 : csum D i (digs n b r0 ++ [k]) = best) : ∀ {r : Nat}, r0 < r → (∀ r', r' < r0 → best < csum D i (digs n b r' ++ [k])) → (∀ r', r' < r → best ≤ csum D i (digs n b r' ++ [k])) → tryN D n i k b s r = (digs n b r0 ++ [k], best)
  | 0, hr, _, _ => by omega
  | r + 1, hr, hlo, hall => by
    show tryOne D i (tryN D n i k b s r) _ = _
    by_cases e : r0 = r
    · subst e
      have h1 := tryN_above h (r := r0) hlo
      unfold tryOne
      rw [h0, if_pos h1]
    · have h1 := tryN_hit h h0 (r := r) (by omega) hlo (fun r' h' => hall r' (by omega))
      rw [h1]
      have h2 := hall r (by omega)
      unfold tryOne
      rw [if_neg (by simp only; omega)]
end

/-- The first chain of fewest steps with the least sum: its tail. -/
structure IsChain (n : Nat) (D : Nat → Nat → Int) (i k : Nat) (T : List Nat) : Prop where
  lt : ∀ y ∈ T, y < n
  en : ends i T = k
  sum : csum D i T = fw7 n D i k
  few : ∀ t, (∀ y ∈ t, y < n) → ends i t = k → csum D i t = fw7 n D i k → T.length ≤ t.length
  first : ∀ t, t.length = T.length → (∀ y ∈ t, y < n) → ends i t = k → csum D i t = fw7 n D i k → val n T ≤ val n t
  nodup : (i :: T).Nodup
section
variable {n : Nat} {D : Nat → Nat → Int} {i k : Nat} {T : List Nat}
theorem least_nodup (h : RM n D) (hi : i < n) {t : List Nat} (ht : ∀ y ∈ t, y < n) (he : ends i t = k) (hs : csum D i t = fw7 n D i k) (hf : ∀ t', (∀ y ∈ t', y < n) → ends i t' = k → csum D i t' = fw7 n D i k → t.length ≤ t'.length) : (i :: t).Nodup := by
  obtain ⟨t', a1, a2, a3, a4, a5⟩ := once h t hi ht
  have h1 := csum_least h hi a1
  rw [a2, he] at h1
  rcases a5 with rfl | a5
  · exact a4
  · have := hf t' a1 (a2.trans he) (by omega)
    omega
/-- What the search of s steps finds, if none of fewer steps finds any. -/
theorem search_is (h : RM n D) (hi : i < n) {s : Nat} (hno : ∀ s', s' < s → search D n k s' i (fw7 n D i k) = none) (hT : search D n k s i (fw7 n D i k) = some T) : IsChain n D i k T := by
  obtain ⟨h1, h2, h3, h4⟩ := search_sound hT
  have hfew : ∀ t, (∀ y ∈ t, y < n) → ends i t = k → csum D i t = fw7 n D i k → T.length ≤ t.length := fun t ht he hs => by
    obtain ⟨t', a1, a2, a3, a4, a5⟩ := once h t hi ht
    have g1 := csum_least h hi a1
    rw [a2, he] at g1
    have hle : t'.length ≤ t.length := by rcases a5 with rfl | a5; exact Nat.le_refl _; omega
    apply Nat.le_of_not_lt
    intro hlt
    obtain ⟨t0, b1, _⟩ := search_first (k := k) h t'.length hi rfl a1 (a2.trans he) (show csum D i t' = fw7 n D i k by omega) a4
    rw [hno t'.length (by omega)] at b1
    cases b1
  refine ⟨h2, h3, h4, hfew, fun t hl ht he hs => ?_, least_nodup h hi h2 h3 h4 hfew⟩
  have hn := least_nodup h hi ht he hs (fun t' a b c => by rw [hl]; exact hfew t' a b c)
  obtain ⟨t0, b1, b2⟩ := search_first (k := k) h s hi (by rw [hl, h1]) ht he hs hn
  rw [hT] at b1
  cases b1
  exact b2
/-- Some search of few steps finds one. -/
theorem search_some (h : RM n D) (hi : i < n) (hk : k < n) : ∃ s, s < n ∧ ∃ T, search D n k s i (fw7 n D i k) = some T := by
  obtain ⟨t, h1, h2, h3⟩ := hasCh h i k hi hk
  obtain ⟨t', a1, a2, a3, a4, a5⟩ := once h t hi h1
  have g1 := csum_least h hi a1
  rw [a2, h2] at g1
  obtain ⟨t0, b1, _⟩ := search_first (k := k) h t'.length hi rfl a1 (a2.trans h2) (show csum D i t' = fw7 n D i k by omega) a4
  have hl := few (n := n) a4 (fun y hy => by
    rcases List.mem_cons.1 hy with rfl | hy
    · exact hi
    · exact a1 y hy)
  simp only [List.length_cons] at hl
  exact ⟨t'.length, by omega, t0, b1⟩
theorem IsChain.one {U : List Nat} (h : IsChain n D i k T) (g : IsChain n D i k U) (hn : 0 < n) : T = U := by
  have h1 := h.few U g.lt g.en g.sum
  have h2 := g.few T h.lt h.en h.sum
  have h3 := h.first U (by omega) g.lt g.en g.sum
  have h4 := g.first T (by omega) h.lt h.en h.sum
  have h5 := digs_val hn T.length T rfl h.lt
  have h6 := digs_val hn U.length U rfl g.lt
  rw [show val n T = val n U by omega, show T.length = U.length by omega] at h5
  rw [← h5, h6]
theorem exists_chain (h : RM n D) (hi : i < n) (hk : k < n) : ∃ T, IsChain n D i k T := by
  obtain ⟨s, _, T, hT⟩ := search_some h hi hk
  have : ∀ s, (∃ T, search D n k s i (fw7 n D i k) = some T) → ∃ s' T, search D n k s' i (fw7 n D i k) = some T ∧ ∀ s'', s'' < s' → search D n k s'' i (fw7 n D i k) = none := by
    intro s
    induction s using Nat.strongRecOn with
    | _ s ih =>
      rintro ⟨T, hT⟩
      by_cases e : ∃ s'', s'' < s ∧ ∃ T, search D n k s'' i (fw7 n D i k) = some T
      · obtain ⟨s'', h1, h2⟩ := e
        exact ih s'' h1 h2
      · refine ⟨s, T, hT, fun s'' hs => ?_⟩
        cases hh : search D n k s'' i (fw7 n D i k) with
        | none => rfl
        | some T' => exact absurd ⟨s'', hs, T', hh⟩ e
  obtain ⟨s', T', h1, h2⟩ := this s ⟨T, hT⟩
  exact ⟨T', search_is h hi h2 h1⟩
theorem ends_snoc (x d : Nat) (t : List Nat) : ends x (t ++ [d]) = d := by rw [ends_app]; rfl
/-- The trial ends with the chain. -/
theorem tryB_chain (h : RM n D) (hi : i < n) (hk : k < n) (hik : i ≠ k) (hT : IsChain n D i k T) : tryB D n i k (n - 2) = (T, fw7 n D i k) := by
  have hn : 0 < n := h.n1
  have hch : ∀ b r, ∀ y ∈ digs n b r ++ [k], y < n := fun b r y hy => by
    rcases List.mem_append.1 hy with hy | hy
    · exact digs_lt hn b r y hy
    · simp at hy; omega
  have hlow : ∀ b r, fw7 n D i k ≤ csum D i (digs n b r ++ [k]) := fun b r => by
    have := csum_least h hi (hch b r)
    rwa [ends_snoc] at this
  -- the chain's length
  obtain ⟨P, hP⟩ : ∃ P, T = P ++ [k] := by
    have hTn : T ≠ [] := by
      intro e; have := hT.en; rw [e] at this; exact hik this
    obtain ⟨p, d, hpd⟩ : ∃ p d, T = p ++ [d] := by
      cases h : T.reverse with
      | nil => simp at h; exact absurd h hTn
      | cons d q => exact ⟨q.reverse, d, by rw [← List.reverse_reverse T, h]; simp⟩
    have he := hT.en
    rw [hpd, ends_snoc] at he
    exact ⟨p, by rw [hpd, he]⟩
  have hPlt : ∀ y ∈ P, y < n := fun y hy => hT.lt y (by rw [hP]; simp [hy])
  have hPl : P.length + 2 ≤ n := by
    have := few (n := n) hT.nodup (fun y hy => by
      rcases List.mem_cons.1 hy with rfl | hy
      · exact hi
      · exact hT.lt y hy)
    rw [hP] at this
    simp at this; omega
  have hdP : digs n P.length (val n P) = P := digs_val hn P.length P rfl hPlt
  have habove : ∀ b r, b < P.length → fw7 n D i k < csum D i (digs n b r ++ [k]) := fun b r hb => by
    apply Classical.byContradiction
    intro hc
    have h1 := hlow b r
    have := hT.few _ (hch b r) (ends_snoc _ _ _) (by omega)
    rw [hP] at this
    simp [digs_len] at this
    omega
  have hB : ∀ b, b < P.length → fw7 n D i k < (tryB D n i k b).2 := by
    intro b
    induction b with
    | zero =>
      intro hb
      show fw7 n D i k < D i k
      have := habove 0 0 hb
      simpa [digs, csum] using this
    | succ b ih =>
      intro hb
      exact tryN_above (ih (by omega)) (fun r' _ => habove (b + 1) r' hb)
  have hat : tryB D n i k P.length = (T, fw7 n D i k) := by
    cases hl : P.length with
    | zero =>
      have hPn : P = [] := List.eq_nil_of_length_eq_zero hl
      have hTs := hT.sum
      rw [hP, hPn] at hTs
      simp only [List.nil_append, csum, Int.add_zero] at hTs
      rw [hP, hPn, tryB, hTs]; rfl
    | succ b =>
      rw [hl] at hdP
      have hsumT : csum D i (digs n (b + 1) (val n P) ++ [k]) = fw7 n D i k := by rw [hdP, ← hP]; exact hT.sum
      have hvl : val n P < n ^ (b + 1) := by have := val_lt hPlt; rwa [hl] at this
      rw [tryB, tryN_hit (hB b (by omega)) hsumT hvl (fun r' hr' => ?_) (fun r' _ => hlow _ _), hdP, ← hP]
      apply Classical.byContradiction
      intro hc
      have h1 := hlow (b + 1) r'
      have h2 := hT.first (digs n (b + 1) r' ++ [k]) (by rw [hP]; simp [digs_len, hl]) (hch _ _) (ends_snoc _ _ _) (by omega)
      rw [hP, val_snoc, val_snoc, val_digs hn (b + 1) r' (by omega)] at h2
      have h3 : (r' + 1) * n ≤ val n P * n := Nat.mul_le_mul_right _ hr'
      rw [Nat.add_mul] at h3
      omega
  have hrest : ∀ d, tryB D n i k (P.length + d) = (T, fw7 n D i k) := by
    intro d
    induction d with
    | zero => exact hat
    | succ d ih =>
      rw [← Nat.add_assoc, tryB, ih]
      exact tryN_stay rfl (fun r' _ => hlow _ _)
  have := hrest (n - 2 - P.length)
  rwa [show P.length + (n - 2 - P.length) = n - 2 by omega] at this
end
end Go.Proofs.Ytmbpcilgjolaeaa
