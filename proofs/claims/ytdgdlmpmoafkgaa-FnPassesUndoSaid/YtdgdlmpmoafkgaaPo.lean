/- Where a letter stands behind a pass: plain. No condition. -/
import Derived.Test.YtdgdlmpmoafkgaaP1
namespace Go.Proofs.Ytdgdlmpmoafkgaa
open Go.RowKit

theorem buck_prefix (zs bs : List Int) (b : Nat) {m n : Nat} (h : m ≤ n) : ∃ t, buck zs bs b n = buck zs bs b m ++ t := by
  induction n with
  | zero => exact ⟨[], by rw [show m = 0 by omega]; simp⟩
  | succ n ih =>
    by_cases e : m = n + 1
    · subst e; exact ⟨[], by simp⟩
    · obtain ⟨t, ht⟩ := ih (by omega)
      exact ⟨t ++ (if bs.getD n 0 = (b : Int) then [zs.getD n 0] else []), by simp only [buck, ht, List.append_assoc]⟩
theorem passL_prefix (zs bs : List Int) {b k : Nat} (h : b ≤ k) : ∃ t, passL zs bs k = passL zs bs b ++ t := by
  induction k with
  | zero => exact ⟨[], by rw [show b = 0 by omega]; simp⟩
  | succ k ih =>
    by_cases e : b = k + 1
    · subst e; exact ⟨[], by simp⟩
    · obtain ⟨t, ht⟩ := ih (by omega)
      exact ⟨t ++ buck zs bs k zs.length, by simp only [passL, ht, List.append_assoc]⟩

/-- The letters among the first n, box by box. -/
def passN2 (zs bs : List Int) (n : Nat) : Nat → List Int
  | 0 => []
  | b + 1 => passN2 zs bs n b ++ buck zs bs b n
theorem passN2_all (zs bs : List Int) (k : Nat) : passN2 zs bs zs.length k = passL zs bs k := by
  induction k with
  | zero => rfl
  | succ k ih => simp only [passN2, passL, ih]
theorem passN2_skip {zs bs : List Int} {n k : Nat} (hb : n < bs.length) (h : (k : Int) ≤ bs[n]) : passN2 zs bs (n + 1) k = passN2 zs bs n k := by
  induction k with
  | zero => rfl
  | succ k ih => simp only [passN2]; rw [ih (by omega), buck_no hb (by omega)]
theorem passN2_perm {zs bs : List Int} {n k : Nat} (hn : n < zs.length) (hb : n < bs.length) (h0 : 0 ≤ bs[n]) (h : bs[n] < (k : Int)) : (passN2 zs bs (n + 1) k).Perm (passN2 zs bs n k ++ [zs[n]]) := by
  induction k with
  | zero => omega
  | succ k ih =>
    simp only [passN2]
    by_cases e : bs[n] = (k : Int)
    · rw [passN2_skip hb (by omega), buck_yes hn hb e, List.append_assoc]
    · rw [buck_no hb e]
      refine ((ih (by omega)).append_right _).trans ?_
      rw [List.append_assoc, List.append_assoc]
      exact (List.perm_append_comm).append_left _
theorem passN2_zero (zs bs : List Int) (k : Nat) : passN2 zs bs 0 k = [] := by
  induction k with
  | zero => rfl
  | succ k ih => simp only [passN2, ih, buck, List.append_nil]
theorem pass_perm {zs bs : List Int} {k : Nat} (hlen : bs.length = zs.length) (hr : ∀ (i : Nat) (hi : i < bs.length), 0 ≤ bs[i] ∧ bs[i] < (k : Int)) : (passL zs bs k).Perm zs := by
  have key : ∀ n, n ≤ zs.length → (passN2 zs bs n k).Perm (zs.take n) := by
    intro n
    induction n with
    | zero => intro _; rw [passN2_zero, List.take_zero]
    | succ n ih =>
      intro hn
      have hnz : n < zs.length := by omega
      have hnb : n < bs.length := by omega
      refine (passN2_perm hnz hnb (hr n hnb).1 (hr n hnb).2).trans ?_
      rw [List.take_succ_eq_append_getElem hnz]
      exact (ih (by omega)).append_right _
  have := key zs.length (Nat.le_refl _)
  rwa [passN2_all, List.take_length] at this

theorem rowB_of' {m : Nat} {zs : List Int} (hl : zs.length ≤ m) (h1 : ∀ i : Nat, (hi : i < zs.length) → 0 ≤ zs[i] ∧ zs[i] < zs.length) (h2 : ∀ i j : Nat, (hi : i < zs.length) → (hj : j < zs.length) → zs[i] = zs[j] → i = j) : rowB m zs = true := by
  refine rowB_yes hl (List.all_eq_true.2 fun k hk => ?_)
  have hk' := List.mem_range.1 hk
  refine okAt_yes hk' (h1 k hk') fun hm => ?_
  obtain ⟨i, hi, he⟩ := List.getElem_of_mem hm
  simp only [List.length_take] at hi
  rw [List.getElem_take] at he
  have := h2 i k (by omega) hk' he
  omega
theorem pl_inj' {m : Nat} {zs : List Int} (h : rowB m zs = true) {x y : Nat} (hx : x < zs.length) (hy : y < zs.length) (he : pl zs (x : Int) = pl zs (y : Int)) : x = y := by
  have h1 := pl_get h hx
  have h2 := pl_get h hy
  simp only [he] at h1
  omega
theorem rowB_nd {m : Nat} {zs : List Int} : rowB m zs = true ↔ zs.length ≤ m ∧ (∀ z ∈ zs, 0 ≤ z ∧ z < zs.length) ∧ zs.Nodup := by
  constructor
  · intro h
    refine ⟨rowB_len h, fun z hz => ?_, ?_⟩
    · obtain ⟨i, hi, rfl⟩ := List.getElem_of_mem hz
      exact (rowB_at h hi).1
    · rw [List.nodup_iff_pairwise_ne, List.pairwise_iff_getElem]
      intro i j hi hj hij he
      have := rowB_nodup h i j hi hj he
      omega
  · rintro ⟨h1, h2, h3⟩
    refine rowB_of' h1 (fun i hi => h2 _ (List.getElem_mem hi)) (fun i j hi hj he => ?_)
    rw [List.nodup_iff_pairwise_ne, List.pairwise_iff_getElem] at h3
    rcases Nat.lt_trichotomy i j with h | h | h
    · exact absurd he (h3 i j hi hj h)
    · exact h
    · exact absurd he.symm (h3 j i hj hi h)
theorem rowB_perm {m : Nat} {zs ys : List Int} (h : ys.Perm zs) (hz : rowB m zs = true) : rowB m ys = true := by
  obtain ⟨h1, h2, h3⟩ := rowB_nd.1 hz
  refine rowB_nd.2 ⟨by rw [h.length_eq]; exact h1, fun z hy => ?_, h.nodup_iff.2 h3⟩
  rw [h.length_eq]
  exact h2 z (h.mem_iff.1 hy)

/-- The place of a letter behind a pass. -/
def posOf (zs bs : List Int) (p b : Nat) : Nat := (passL zs bs b).length + (buck zs bs b p).length
theorem pl_pass {m : Nat} {zs bs : List Int} {k : Nat} (hz : rowB m zs = true) (hlen : bs.length = zs.length) (hr : ∀ (i : Nat) (hi : i < bs.length), 0 ≤ bs[i] ∧ bs[i] < (k : Int))
    {p b : Nat} (hp : p < zs.length) (hb : bs[p]'(by omega) = (b : Int)) : pl (passL zs bs k) zs[p] = posOf zs bs p b := by
  have hbk : b < k := by have := (hr p (by omega)).2; omega
  obtain ⟨t, ht⟩ := passL_prefix zs bs (show b + 1 ≤ k by omega)
  obtain ⟨s, hs⟩ := buck_prefix zs bs b (show p + 1 ≤ zs.length by omega)
  have hy := buck_yes (b := b) hp (show p < bs.length by omega) hb
  have hall : passL zs bs k = (passL zs bs b ++ buck zs bs b p) ++ (zs[p] :: (s ++ t)) := by
    rw [ht]; simp only [passL]; rw [hs, hy]; simp
  have hrow := rowB_perm (pass_perm hlen hr) hz
  have hlt : posOf zs bs p b < (passL zs bs k).length := by rw [hall]; simp [posOf]
  have hat : (passL zs bs k)[posOf zs bs p b]'hlt = zs[p] := by
    have : (passL zs bs k)[posOf zs bs p b]? = some zs[p] := by
      rw [hall, List.getElem?_append_right (by simp [posOf])]
      simp [posOf]
    rw [List.getElem?_eq_getElem hlt] at this
    exact Option.some.inj this
  have := pl_at hrow hlt
  rwa [hat] at this

theorem pos_box {zs bs : List Int} {p q a b : Nat} (hp : p < zs.length) (hpb : p < bs.length) (ha : bs[p] = (a : Int)) (hab : a < b) : posOf zs bs p a < posOf zs bs q b := by
  obtain ⟨t, ht⟩ := passL_prefix zs bs (show a + 1 ≤ b by omega)
  obtain ⟨s, hs⟩ := buck_prefix zs bs a (show p + 1 ≤ zs.length by omega)
  have hy := buck_yes (b := a) hp hpb ha
  have h1 := congrArg List.length ht
  have h2 := congrArg List.length hs
  rw [hy] at h2
  simp only [passL, List.length_append, List.length_cons, List.length_nil] at h1 h2
  unfold posOf
  omega
theorem pos_same {zs bs : List Int} {p q b : Nat} (hp : p < zs.length) (hpb : p < bs.length) (ha : bs[p] = (b : Int)) (hpq : p < q) : posOf zs bs p b < posOf zs bs q b := by
  obtain ⟨s, hs⟩ := buck_prefix zs bs b (show p + 1 ≤ q by omega)
  have hy := buck_yes (b := b) hp hpb ha
  have h2 := congrArg List.length hs
  rw [hy] at h2
  simp only [List.length_append, List.length_cons, List.length_nil] at h2
  unfold posOf
  omega

/-- The box of a letter. -/
def boxOf (zs bs : List Int) (x : Nat) : Nat := (bs.getD (pl zs (x : Int)) 0).toNat
theorem boxOf_eq {m : Nat} {zs bs : List Int} {k : Nat} (hz : rowB m zs = true) (hlen : bs.length = zs.length) (hr : ∀ (i : Nat) (hi : i < bs.length), 0 ≤ bs[i] ∧ bs[i] < (k : Int)) {x : Nat} (hx : x < zs.length) :
    bs[pl zs (x : Int)]'(by rw [hlen]; exact pl_lt hz hx) = (boxOf zs bs x : Int) ∧ boxOf zs bs x < k := by
  have h := pl_lt hz hx
  have h1 := hr (pl zs (x : Int)) (by omega)
  unfold boxOf
  rw [getD_get (show pl zs (x : Int) < bs.length by omega)]
  omega
theorem pl_pass' {m : Nat} {zs bs : List Int} {k : Nat} (hz : rowB m zs = true) (hlen : bs.length = zs.length) (hr : ∀ (i : Nat) (hi : i < bs.length), 0 ≤ bs[i] ∧ bs[i] < (k : Int)) {x : Nat} (hx : x < zs.length) :
    pl (passL zs bs k) (x : Int) = posOf zs bs (pl zs (x : Int)) (boxOf zs bs x) := by
  have := pl_pass hz hlen hr (pl_lt hz hx) (boxOf_eq hz hlen hr hx).1
  rwa [pl_get hz hx] at this

/-- One letter behind another one: told by their boxes, and their places. -/
theorem pass_order {m : Nat} {zs bs : List Int} {k : Nat} (hz : rowB m zs = true) (hlen : bs.length = zs.length) (hr : ∀ (i : Nat) (hi : i < bs.length), 0 ≤ bs[i] ∧ bs[i] < (k : Int)) {x y : Nat} (hx : x < zs.length) (hy : y < zs.length) (hxy : x ≠ y) :
    pl (passL zs bs k) (x : Int) < pl (passL zs bs k) (y : Int) ↔ boxOf zs bs x < boxOf zs bs y ∨ (boxOf zs bs x = boxOf zs bs y ∧ pl zs (x : Int) < pl zs (y : Int)) := by
  rw [pl_pass' hz hlen hr hx, pl_pass' hz hlen hr hy]
  have bx := boxOf_eq hz hlen hr hx
  have by_ := boxOf_eq hz hlen hr hy
  have px := pl_lt hz hx
  have py := pl_lt hz hy
  have hne : pl zs (x : Int) ≠ pl zs (y : Int) := fun e => hxy (pl_inj' hz hx hy e)
  rcases Nat.lt_trichotomy (boxOf zs bs x) (boxOf zs bs y) with h | h | h
  · exact ⟨fun _ => .inl h, fun _ => pos_box px (by omega) bx.1 h⟩
  · rw [h] at bx ⊢
    constructor
    · intro hlt
      refine .inr ⟨rfl, ?_⟩
      rcases Nat.lt_or_ge (pl zs (x : Int)) (pl zs (y : Int)) with h1 | h1
      · exact h1
      · have := pos_same py (show pl zs (y : Int) < bs.length by omega) by_.1 (show pl zs (y : Int) < pl zs (x : Int) by omega)
        omega
    · rintro (h1 | ⟨_, h1⟩)
      · omega
      · exact pos_same px (by omega) bx.1 h1
  · constructor
    · intro hlt
      have := pos_box (q := pl zs (x : Int)) py (by omega) by_.1 h
      omega
    · rintro (h1 | ⟨h1, _⟩) <;> omega

/-- A pass makes at most a k-th of the runs. -/
theorem runs_pass {m : Nat} {zs bs : List Int} {k : Nat} (hz : rowB m zs = true) (hlen : bs.length = zs.length) (hr : ∀ (i : Nat) (hi : i < bs.length), 0 ≤ bs[i] ∧ bs[i] < (k : Int)) {x : Nat} (hx : x < zs.length) :
    runNo zs x ≤ k * runNo (passL zs bs k) x + boxOf zs bs x := by
  induction x with
  | zero => simp [runNo]
  | succ d ih =>
    have h1 := ih (by omega)
    have bx := (boxOf_eq hz hlen hr hx).2
    have bd := (boxOf_eq hz hlen hr (show d < zs.length by omega)).2
    have ho := pass_order hz hlen hr hx (show d < zs.length by omega) (by omega)
    have e1 : runNo zs (d + 1) = runNo zs d + if pl zs ((d + 1 : Nat) : Int) < pl zs (d : Int) then 1 else 0 := rfl
    have e2 : runNo (passL zs bs k) (d + 1) = runNo (passL zs bs k) d + if pl (passL zs bs k) ((d + 1 : Nat) : Int) < pl (passL zs bs k) (d : Int) then 1 else 0 := rfl
    generalize runNo (passL zs bs k) d = R at h1 e2
    rw [e1, e2]
    by_cases h : pl (passL zs bs k) ((d + 1 : Nat) : Int) < pl (passL zs bs k) (d : Int)
    · rw [if_pos h, Nat.mul_add, Nat.mul_one]
      generalize k * R = KR at h1 ⊢
      split <;> omega
    · rw [if_neg h, Nat.add_zero]
      generalize k * R = KR at h1 ⊢
      by_cases h2 : pl zs ((d + 1 : Nat) : Int) < pl zs (d : Int)
      · rw [if_pos h2]
        have : boxOf zs bs d < boxOf zs bs (d + 1) := by
          rcases Nat.lt_trichotomy (boxOf zs bs d) (boxOf zs bs (d + 1)) with h3 | h3 | h3
          · exact h3
          · exact absurd (ho.2 (.inr ⟨h3.symm, h2⟩)) h
          · exact absurd (ho.2 (.inl h3)) h
        omega
      · rw [if_neg h2]
        have : boxOf zs bs d ≤ boxOf zs bs (d + 1) := by
          rcases Nat.lt_or_ge (boxOf zs bs (d + 1)) (boxOf zs bs d) with h3 | h3
          · exact absurd (ho.2 (.inl h3)) h
          · exact h3
        omega
end Go.Proofs.Ytdgdlmpmoafkgaa
