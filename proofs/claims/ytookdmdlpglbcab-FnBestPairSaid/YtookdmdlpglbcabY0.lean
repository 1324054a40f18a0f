/- Stamps, plain. No condition. -/
import Derived.Test.YtookdmdlpglbcabS0
import Derived.Test.YtookdmdlpglbcabA1
namespace Go.Proofs.Ytookdmdlpglbcab
open Go.RowKit

def okS (zs : List Int) (i : Nat) : Bool := inR (zs.getD i 0) 1 12 && (decide (i = 0) || decide (zs.getD (i - 1) 0 < zs.getD i 0))
def stampsB (zs : List Int) : Bool := inR zs.length 1 4 && (List.range zs.length).all (okS zs)

theorem inRI {a lo hi : Int} : inR a lo hi = true ↔ lo ≤ a ∧ a ≤ hi := by simp [inR]
theorem inRN {a lo hi : Int} : inR a lo hi = false ↔ ¬ (lo ≤ a ∧ a ≤ hi) := by simp [inR]
theorem stampsB_no {zs : List Int} {k : Nat} (hk : k < zs.length) (h : okS zs k = false) : stampsB zs = false := by
  simp [stampsB, all_range_no hk h]
theorem stampsB_all {zs : List Int} (h : (List.range zs.length).all (okS zs) = true) : stampsB zs = inR zs.length 1 4 := by simp only [stampsB, h, Bool.and_true]
theorem stampsB_len {zs : List Int} (h : stampsB zs = true) : 1 ≤ zs.length ∧ zs.length ≤ 4 := by
  simp only [stampsB, Bool.and_eq_true, inRI] at h; omega
theorem stampsB_out {zs : List Int} (h : ¬ (1 ≤ zs.length ∧ zs.length ≤ 4)) : stampsB zs = false := by
  rw [stampsB, inRN.2 (by omega)]; rfl
theorem stampsB_at {zs : List Int} (h : stampsB zs = true) {k : Nat} (hk : k < zs.length) : okS zs k = true := by
  simp only [stampsB, Bool.and_eq_true] at h; exact all_range h.2 hk
theorem okS_get {zs : List Int} {k : Nat} (hk : k < zs.length) : okS zs k = (inR zs[k] 1 12 && (decide (k = 0) || decide (zs.getD (k - 1) 0 < zs[k]))) := by
  simp only [okS, getD_get hk]
theorem stamp_in {zs : List Int} (h : stampsB zs = true) {k : Nat} (hk : k < zs.length) : 1 ≤ zs[k] ∧ zs[k] ≤ 12 := by
  have := stampsB_at h hk
  rw [okS_get hk, Bool.and_eq_true, inRI] at this; exact this.1
theorem stamp_up {zs : List Int} (h : stampsB zs = true) {k : Nat} (hk : k + 1 < zs.length) : zs[k] < zs[k + 1] := by
  have := stampsB_at h hk
  rw [okS_get hk, Bool.and_eq_true] at this
  have h2 := this.2
  simp at h2
  simpa [List.getElem?_eq_getElem (show k < zs.length by omega)] using h2
theorem stamp_lt {zs : List Int} (h : stampsB zs = true) : ∀ (d k : Nat) (hk : k + (d + 1) < zs.length), zs[k] < zs[k + (d + 1)]
  | 0, k, hk => stamp_up h hk
  | d + 1, k, hk => by
    have h1 := stamp_lt h d k (by omega)
    have h2 := stamp_up h (k := k + (d + 1)) (by omega)
    have : zs[k + (d + 1) + 1] = zs[k + (d + 1 + 1)] := rfl
    omega
theorem stamp_mem {zs : List Int} (h : stampsB zs = true) {s : Int} (hs : s ∈ zs) : 1 ≤ s ∧ s ≤ 12 := by
  obtain ⟨i, hi, rfl⟩ := List.getElem_of_mem hs; exact stamp_in h hi
theorem stampsB_take {zs : List Int} (h : stampsB zs = true) {m : Nat} (h1 : 1 ≤ m) (h2 : m ≤ zs.length) : stampsB (zs.take m) = true := by
  have hl := stampsB_len h
  have hlen : (zs.take m).length = m := by simp; omega
  rw [stampsB_all]
  · rw [hlen, inRI]; omega
  · rw [hlen, List.all_eq_true]
    intro i hi
    rw [List.mem_range] at hi
    have := stampsB_at h (k := i) (by omega)
    have e1 : (zs.take m).getD i 0 = zs.getD i 0 := by simp [List.getD, hi]
    have e2 : (zs.take m).getD (i - 1) 0 = zs.getD (i - 1) 0 := by simp [List.getD, show i - 1 < m by omega]
    rw [okS, e1, e2]; exact this

/-! ### The fewest -/
def stepS (f : Nat → Int) (r : Nat) (x s : Int) : Int :=
  if s ≤ r ∧ 0 ≤ f (r - s.toNat) ∧ (x < 0 ∨ f (r - s.toNat) + 1 < x) then f (r - s.toNat) + 1 else x
def fwT (v : List Int) : Nat → List Int
  | 0 => [0]
  | n + 1 => fwT v n ++ [v.foldl (stepS (fun i => (fwT v n).getD i 0) (n + 1)) (-1)]
def fw (v : List Int) (r : Nat) : Int := (fwT v r).getD r 0

theorem fwT_len (v : List Int) : ∀ n, (fwT v n).length = n + 1
  | 0 => rfl
  | n + 1 => by rw [fwT, List.length_append, fwT_len v n]; rfl
theorem fwT_get (v : List Int) (n : Nat) : ∀ {r : Nat}, r ≤ n → (fwT v n).getD r 0 = fw v r := by
  induction n with
  | zero => intro r hr; have : r = 0 := by omega
            subst this; rfl
  | succ n ih =>
    intro r hr
    by_cases h : r = n + 1
    · subst h; rfl
    · rw [← ih (show r ≤ n by omega), fwT]
      simp only [List.getD, List.getElem?_append]
      rw [if_pos (by rw [fwT_len]; omega)]
theorem foldl_cong {α : Type} {f g : α → Int → α} {l : List Int} (h : ∀ x s, s ∈ l → f x s = g x s) : ∀ x, l.foldl f x = l.foldl g x := by
  induction l with
  | nil => intro x; rfl
  | cons s l ih =>
    intro x
    rw [List.foldl_cons, List.foldl_cons, h x s (by simp)]
    exact ih (fun x t ht => h x t (by simp [ht])) _
theorem fw_zero (v : List Int) : fw v 0 = 0 := rfl
theorem fw_succ (v : List Int) (n : Nat) (hp : ∀ s ∈ v, 1 ≤ s) : fw v (n + 1) = v.foldl (stepS (fw v) (n + 1)) (-1) := by
  have h : fw v (n + 1) = v.foldl (stepS (fun i => (fwT v n).getD i 0) (n + 1)) (-1) := by
    rw [fw, fwT]
    simp only [List.getD]
    rw [List.getElem?_append_right (by rw [fwT_len]; exact Nat.le_refl _), fwT_len]; simp
  rw [h]
  refine foldl_cong (fun x s hs => ?_) _
  have := hp s hs
  have e : (fwT v n).getD (n + 1 - s.toNat) 0 = fw v (n + 1 - s.toNat) := fwT_get v n (by omega)
  simp only [stepS, e]

/-- Between -1 and r. -/
theorem foldS_bd {f : Nat → Int} {r : Nat} {l : List Int} (hp : ∀ s ∈ l, 1 ≤ s) (hf : ∀ i, i < r → -1 ≤ f i ∧ f i ≤ i) : ∀ x : Int, -1 ≤ x → x ≤ r → -1 ≤ l.foldl (stepS f r) x ∧ l.foldl (stepS f r) x ≤ r := by
  induction l with
  | nil => intro x h1 h2; exact ⟨h1, h2⟩
  | cons s l ih =>
    intro x h1 h2
    rw [List.foldl_cons]
    have hs := hp s (by simp)
    refine ih (fun t ht => hp t (by simp [ht])) _ ?_ ?_
    · unfold stepS; split
      · omega
      · exact h1
    · unfold stepS; split
      · rename_i h
        have := hf (r - s.toNat) (by omega)
        omega
      · exact h2
theorem fw_bd (v : List Int) (hp : ∀ s ∈ v, 1 ≤ s) : ∀ r, -1 ≤ fw v r ∧ fw v r ≤ r := by
  intro r
  induction r using Nat.strongRecOn with
  | _ r ih =>
    cases r with
    | zero => rw [fw_zero]; omega
    | succ n => rw [fw_succ v n hp]; exact foldS_bd hp (fun i hi => ih i hi) (-1) (by omega) (by omega)

/-- What a fold hands back: the start, or one more for one of the stamps. -/
theorem foldS_from {f : Nat → Int} {r : Nat} {l : List Int} : ∀ x : Int, l.foldl (stepS f r) x = x ∨ ∃ s ∈ l, s ≤ r ∧ 0 ≤ f (r - s.toNat) ∧ l.foldl (stepS f r) x = f (r - s.toNat) + 1 := by
  induction l with
  | nil => intro x; exact .inl rfl
  | cons s l ih =>
    intro x
    rw [List.foldl_cons]
    rcases ih (stepS f r x s) with h | ⟨t, ht, h1, h2, h3⟩
    · rw [h]
      unfold stepS
      split
      · rename_i hc
        exact .inr ⟨s, by simp, hc.1, hc.2.1, rfl⟩
      · exact .inl rfl
    · exact .inr ⟨t, by simp [ht], h1, h2, h3⟩
/-- .. and at most that for each of them; none is lost. -/
theorem foldS_le {f : Nat → Int} {r : Nat} {l : List Int} : ∀ x : Int, (0 ≤ x → 0 ≤ l.foldl (stepS f r) x ∧ l.foldl (stepS f r) x ≤ x) ∧ ∀ s ∈ l, s ≤ r → 0 ≤ f (r - s.toNat) → 0 ≤ l.foldl (stepS f r) x ∧ l.foldl (stepS f r) x ≤ f (r - s.toNat) + 1 := by
  induction l with
  | nil => intro x; exact ⟨fun h => ⟨h, Int.le_refl _⟩, fun s hs => by simp at hs⟩
  | cons s l ih =>
    intro x
    rw [List.foldl_cons]
    obtain ⟨h1, h2⟩ := ih (stepS f r x s)
    refine ⟨fun hx => ?_, fun t ht ht1 ht2 => ?_⟩
    · by_cases hc : s ≤ r ∧ 0 ≤ f (r - s.toNat) ∧ (x < 0 ∨ f (r - s.toNat) + 1 < x)
      · have e : stepS f r x s = f (r - s.toNat) + 1 := by simp only [stepS, if_pos hc]
        rw [e] at h1 ⊢
        have := h1 (by omega)
        omega
      · have e : stepS f r x s = x := by simp only [stepS, if_neg hc]
        rw [e] at h1 ⊢
        exact h1 hx
    · rcases List.mem_cons.1 ht with rfl | ht
      · by_cases hc : t ≤ r ∧ 0 ≤ f (r - t.toNat) ∧ (x < 0 ∨ f (r - t.toNat) + 1 < x)
        · have e : stepS f r x t = f (r - t.toNat) + 1 := by simp only [stepS, if_pos hc]
          rw [e] at h1 ⊢
          exact h1 (by omega)
        · have e : stepS f r x t = x := by simp only [stepS, if_neg hc]
          rw [e] at h1 ⊢
          have := h1 (by omega)
          omega
      · exact h2 t ht ht1 ht2
/-- FewestStamps is at most one more than for the rate less a stamp. -/
theorem fw_le {v : List Int} (hp : ∀ s ∈ v, 1 ≤ s) {r : Nat} {s : Int} (hs : s ∈ v) (h1 : s ≤ r) (h2 : 0 ≤ fw v (r - s.toNat)) : 0 ≤ fw v r ∧ fw v r ≤ fw v (r - s.toNat) + 1 := by
  have := hp s hs
  cases r with
  | zero => omega
  | succ n => rw [fw_succ v n hp]; exact (foldS_le (-1)).2 s hs h1 h2
/-- .. and is so for one of them. -/
theorem fw_from {v : List Int} (hp : ∀ s ∈ v, 1 ≤ s) {r : Nat} (hr : 0 < r) (h : 0 ≤ fw v r) : ∃ s ∈ v, s ≤ r ∧ 0 ≤ fw v (r - s.toNat) ∧ fw v r = fw v (r - s.toNat) + 1 := by
  cases r with
  | zero => omega
  | succ n =>
    rw [fw_succ v n hp] at h ⊢
    rcases foldS_from (f := fw v) (r := n + 1) (l := v) (-1) with h' | h'
    · rw [h'] at h; omega
    · exact h'
theorem fw_ge {v : List Int} (hp : ∀ s ∈ v, 1 ≤ s) {m : Int} (hm : ∀ s ∈ v, s ≤ m) : ∀ r : Nat, 0 ≤ fw v r → (r : Int) ≤ fw v r * m := by
  intro r
  induction r using Nat.strongRecOn with
  | _ r ih =>
    intro h
    by_cases hr : r = 0
    · subst hr; rw [fw_zero]; simp
    · obtain ⟨s, hs, h1, h2, h3⟩ := fw_from hp (by omega) h
      have hs1 := hp s hs
      have := ih (r - s.toNat) (by omega) h2
      have hms := hm s hs
      rw [h3, Int.add_mul]
      omega

/-! ### The greatest first -/
def gStep (p : Int × Int) (s : Int) : Int × Int := (p.1 + p.2 / s, p.2 % s)
def gFold (v : List Int) (rate : Int) : Int × Int := v.reverse.foldl gStep (0, rate)
def gr (v : List Int) (rate : Int) : Int := if (gFold v rate).2 > 0 then -1 else (gFold v rate).1

/-! ### The reach -/
def goodR (v : List Int) (most : Int) (r : Nat) : Bool := decide (0 ≤ fw v r ∧ fw v r ≤ most)
def IsReach (v : List Int) (most : Int) (r : Nat) : Prop := (∀ j, 1 ≤ j → j ≤ r → goodR v most j = true) ∧ goodR v most (r + 1) = false
theorem IsReach.unique {v : List Int} {most : Int} {a b : Nat} (ha : IsReach v most a) (hb : IsReach v most b) : a = b := by
  rcases Nat.lt_trichotomy a b with h | h | h
  · have := hb.1 (a + 1) (by omega) (by omega); rw [ha.2] at this; cases this
  · exact h
  · have := ha.1 (b + 1) (by omega) (by omega); rw [hb.2] at this; cases this
def reachV (v : List Int) (most : Int) : Nat := ((List.range 200).find? (fun r => !goodR v most (r + 1))).getD 0
theorem reach_is {v : List Int} {most : Int} (h : ∃ r, r < 200 ∧ goodR v most (r + 1) = false) : IsReach v most (reachV v most) := by
  obtain ⟨r, hr, hg⟩ := h
  unfold reachV
  cases hf : (List.range 200).find? (fun r => !goodR v most (r + 1)) with
  | none =>
    rw [List.find?_eq_none] at hf
    have := hf r (List.mem_range.2 hr)
    simp [hg] at this
  | some q =>
    rw [List.find?_eq_some_iff_getElem] at hf
    obtain ⟨h1, i, hi, h2, h3⟩ := hf
    simp only [List.getElem_range] at h2
    subst h2
    simp at h1
    refine ⟨fun j hj1 hj2 => ?_, by simpa using h1⟩
    have := h3 (j - 1) (by simp only [Option.getD_some] at hj2; omega)
    simp only [List.getElem_range, Bool.not_not] at this
    simpa [show j - 1 + 1 = j by omega] using this
/-- A rate past so many of the greatest stamp is not made of so many. -/
theorem good_past {v : List Int} (hp : ∀ s ∈ v, 1 ≤ s) {m most : Int} (hm : ∀ s ∈ v, s ≤ m) (hm0 : 0 ≤ m) {r : Nat} (hr : most * m < r) : goodR v most r = false := by
  simp only [goodR, decide_eq_false_iff_not]
  rintro ⟨h1, h2⟩
  have h3 := fw_ge hp hm r h1
  have h4 : fw v r * m ≤ most * m := Int.mul_le_mul_of_nonneg_right h2 hm0
  omega

/-! ### The first waste -/
def IsWaste (v : List Int) (o : Int) : Prop :=
  (o = -1 ∧ ∀ r : Nat, r ≤ 140 → gr v r = fw v r) ∨ ∃ r : Nat, o = r ∧ r ≤ 140 ∧ gr v r ≠ fw v r ∧ ∀ j : Nat, j < r → gr v j = fw v j
theorem IsWaste.unique {v : List Int} {a b : Int} (ha : IsWaste v a) (hb : IsWaste v b) : a = b := by
  rcases ha with ⟨rfl, ha⟩ | ⟨r, rfl, hr, hn, ha⟩
  · rcases hb with ⟨rfl, hb⟩ | ⟨r, rfl, hr, hn, hb⟩
    · rfl
    · exact absurd (ha r hr) hn
  · rcases hb with ⟨rfl, hb⟩ | ⟨q, rfl, hq, hn', hb⟩
    · exact absurd (hb r hr) hn
    · rcases Nat.lt_trichotomy r q with h | h | h
      · exact absurd (hb r h) hn
      · rw [h]
      · exact absurd (ha q h) hn'
def wasteV (v : List Int) : Int := match (List.range 141).find? (fun r : Nat => gr v r != fw v r) with | some r => (r : Int) | none => -1
theorem waste_is (v : List Int) : IsWaste v (wasteV v) := by
  unfold wasteV
  cases hf : (List.range 141).find? (fun r : Nat => gr v r != fw v r) with
  | none =>
    rw [List.find?_eq_none] at hf
    refine .inl ⟨rfl, fun r hr => ?_⟩
    have := hf r (List.mem_range.2 (by omega))
    simpa using this
  | some q =>
    rw [List.find?_eq_some_iff_getElem] at hf
    obtain ⟨h1, i, hi, h2, h3⟩ := hf
    simp only [List.getElem_range] at h2
    subst h2
    simp only [List.length_range] at hi
    refine .inr ⟨i, rfl, by omega, by simpa using h1, fun j hj => ?_⟩
    have := h3 j hj
    simpa using this

/-! ### What is not paid -/
def notPaid (v : List Int) (n : Nat) : List Int := ((List.range n).filter (fun r => fw v (r + 1) == -1)).map (fun r => ((r + 1 : Nat) : Int))
theorem notPaid_succ (v : List Int) (n : Nat) : notPaid v (n + 1) = if fw v (n + 1) = -1 then notPaid v n ++ [((n + 1 : Nat) : Int)] else notPaid v n := by
  simp only [notPaid, List.range_succ, List.filter_append, List.filter_cons, List.filter_nil, beq_iff_eq]
  split <;> simp
theorem notPaid_len (v : List Int) (n : Nat) : (notPaid v n).length ≤ n := by
  simp only [notPaid, List.length_map]
  exact Nat.le_trans (List.length_filter_le _ _) (by simp)
end Go.Proofs.Ytookdmdlpglbcab
