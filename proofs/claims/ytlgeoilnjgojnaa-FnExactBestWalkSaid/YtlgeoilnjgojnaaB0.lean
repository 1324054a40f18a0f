/- The least way over a set, by sets, plain. No condition. -/
import Derived.Test.YtlgeoilnjgojnaaW0
namespace Go.Proofs.Ytlgeoilnjgojnaa
open Go.RowKit

/-- A list that holds each number of a set (the bits of s) once. -/
def Cover (s : Nat) (l : List Nat) : Prop := l.Nodup ∧ ∀ k, k ∈ l ↔ s.testBit k = true

theorem bit_iff (s k : Nat) : s.testBit k = true ↔ s / 2 ^ k % 2 = 1 := by
  rw [Nat.testBit_eq_decide_div_mod_eq]; simp
theorem pow_le_of_bit {s k : Nat} (h : s.testBit k = true) : 2 ^ k ≤ s := Nat.ge_two_pow_of_testBit h
/-- A set without one of its numbers. -/
theorem bit_sub {s k : Nat} (h : s.testBit k = true) (j : Nat) : (s - 2 ^ k).testBit j = true ↔ s.testBit j = true ∧ j ≠ k := by
  have hb := (bit_iff s k).1 h
  have hle := pow_le_of_bit h
  rw [bit_iff, bit_iff]
  rcases Nat.lt_trichotomy j k with hj | hj | hj
  · obtain ⟨m, rfl⟩ : ∃ m, k = j + (m + 1) := ⟨k - j - 1, by omega⟩
    have e : 2 ^ (j + (m + 1)) = 2 ^ j * (2 * 2 ^ m) := by rw [Nat.pow_add, Nat.pow_succ, Nat.mul_comm 2]
    rw [e] at hle ⊢
    rw [Nat.sub_mul_div, show (s / 2 ^ j - 2 * 2 ^ m) % 2 = s / 2 ^ j % 2 from ?_]
    · constructor
      · exact fun h => ⟨h, by omega⟩
      · exact fun h => h.1
    · have : 2 * 2 ^ m ≤ s / 2 ^ j := (Nat.le_div_iff_mul_le (Nat.two_pow_pos j)).2 (by rw [Nat.mul_comm]; exact hle)
      omega
  · subst hj
    have := Nat.sub_mul_div s (2 ^ j) 1
    rw [Nat.mul_one] at this
    rw [this]
    constructor
    · intro h; omega
    · exact fun h => absurd rfl h.2
  · obtain ⟨m, rfl⟩ : ∃ m, j = k + (m + 1) := ⟨j - k - 1, by omega⟩
    have e : ∀ t : Nat, t / 2 ^ (k + (m + 1)) = t / 2 ^ k / 2 / 2 ^ m := fun t => by
      rw [Nat.pow_add, Nat.pow_succ, Nat.mul_comm (2 ^ m), ← Nat.div_div_eq_div_mul, ← Nat.div_div_eq_div_mul]
    rw [e, e]
    have := Nat.sub_mul_div s (2 ^ k) 1
    rw [Nat.mul_one] at this
    rw [this]
    generalize s / 2 ^ k = q at hb ⊢
    rw [show (q - 1) / 2 = q / 2 by omega]
    constructor
    · exact fun h => ⟨h, by omega⟩
    · exact fun h => h.1
theorem cover_zero {l : List Nat} (h : Cover 0 l) : l = [] := by
  rcases l with _ | ⟨a, l⟩
  · rfl
  · have := (h.2 a).1 (by simp); simp at this
theorem cover_snoc {s k : Nat} {l : List Nat} (h : s.testBit k = true) (hc : Cover (s - 2 ^ k) l) : Cover s (l ++ [k]) := by
  constructor
  · rw [List.nodup_append]
    refine ⟨hc.1, by simp, fun a ha b hb => ?_⟩
    simp only [List.mem_singleton] at hb; subst hb
    exact ((bit_sub h a).1 ((hc.2 a).1 ha)).2
  · intro j
    rw [List.mem_append, List.mem_singleton, hc.2, bit_sub h]
    constructor
    · rintro (h1 | rfl)
      · exact h1.1
      · exact h
    · intro h1
      by_cases e : j = k
      · exact .inr e
      · exact .inl ⟨h1, e⟩
theorem cover_unsnoc {s k : Nat} {l : List Nat} (hc : Cover s (l ++ [k])) : s.testBit k = true ∧ Cover (s - 2 ^ k) l := by
  have h := (hc.2 k).1 (by simp)
  have hn := hc.1
  rw [List.nodup_append] at hn
  refine ⟨h, hn.1, fun j => ?_⟩
  rw [bit_sub h, ← hc.2 j, List.mem_append, List.mem_singleton]
  constructor
  · exact fun hj => ⟨.inl hj, hn.2.2 j hj k (by simp)⟩
  · rintro ⟨h1 | h1, h2⟩
    · exact h1
    · exact absurd h1 h2
theorem cover_ne {s : Nat} {l : List Nat} (hs : s ≠ 0) (hc : Cover s l) : ∃ l' k, l = l' ++ [k] := by
  rcases List.eq_nil_or_concat l with rfl | ⟨l', k, h⟩
  · obtain ⟨k, hk⟩ := Nat.exists_testBit_of_ne_zero hs
    have := (hc.2 k).2 hk; simp at this
  · exact ⟨l', k, by simpa using h⟩
theorem cover_full {n : Nat} {l : List Nat} (hp : l.Perm (List.range n)) : Cover (2 ^ n - 1) l := by
  refine ⟨hp.nodup_iff.2 List.nodup_range, fun k => ?_⟩
  rw [hp.mem_iff, List.mem_range, Nat.testBit_two_pow_sub_one]; simp

section
variable {α : Type}
/-- v is the least way from o over the set s to t. -/
def LeastTo (d : α → α → Int) (o : α) (h : Nat → α) (s : Nat) (t : α) (v : Int) : Prop :=
  (∃ l, Cover s l ∧ v = pl2 d o (l.map h ++ [t])) ∧ ∀ l, Cover s l → v ≤ pl2 d o (l.map h ++ [t])
theorem LeastTo.one {d : α → α → Int} {o : α} {h : Nat → α} {s : Nat} {t : α} {v v' : Int} (h1 : LeastTo d o h s t v) (h2 : LeastTo d o h s t v') : v = v' := by
  obtain ⟨⟨l, hl, rfl⟩, h1⟩ := h1
  obtain ⟨⟨l', hl', rfl⟩, h2⟩ := h2
  have := h1 l' hl'
  have := h2 l hl
  omega
theorem least_zero (d : α → α → Int) (o : α) (h : Nat → α) (t : α) : LeastTo d o h 0 t (d o t) :=
  ⟨⟨[], ⟨by simp, by simp⟩, by simp [pl2]⟩, fun l hl => by rw [cover_zero hl]; simp [pl2]⟩
theorem pl2_snoc2 (d : α → α → Int) (a b c : α) (l : List α) : pl2 d a (l ++ [b] ++ [c]) = pl2 d a (l ++ [b]) + d b c := by
  rw [pl2_append, ends_append, pl2_one]; rfl
/-- One step: the least over the last numbers. -/
theorem least_step {d : α → α → Int} {o : α} {h : Nat → α} {s : Nat} {t : α} {v : Int} (hs : s ≠ 0) {T : Nat → Int}
    (hT : ∀ k, s.testBit k = true → LeastTo d o h (s - 2 ^ k) (h k) (T k))
    (hex : ∃ k, s.testBit k = true ∧ v = T k + d (h k) t) (hle : ∀ k, s.testBit k = true → v ≤ T k + d (h k) t) : LeastTo d o h s t v := by
  constructor
  · obtain ⟨k, hk, rfl⟩ := hex
    obtain ⟨⟨l, hl, he⟩, -⟩ := hT k hk
    exact ⟨l ++ [k], cover_snoc hk hl, by rw [List.map_append, List.map_cons, List.map_nil, pl2_snoc2, ← he]⟩
  · intro l hl
    obtain ⟨l', k, rfl⟩ := cover_ne hs hl
    obtain ⟨hk, hc⟩ := cover_unsnoc hl
    have h1 := (hT k hk).2 l' hc
    have h2 := hle k hk
    rw [List.map_append, List.map_cons, List.map_nil, pl2_snoc2]
    omega
theorem pl2_nonneg {d : α → α → Int} (hd : ∀ a b, 0 ≤ d a b) (a : α) (l : List α) : 0 ≤ pl2 d a l := by
  induction l generalizing a with
  | nil => exact Int.le_refl _
  | cons b l ih => have := hd a b; have := ih b; simp only [pl2]; omega
theorem LeastTo.nonneg {d : α → α → Int} (hd : ∀ a b, 0 ≤ d a b) {o : α} {h : Nat → α} {s : Nat} {t : α} {v : Int} (h1 : LeastTo d o h s t v) : 0 ≤ v := by
  obtain ⟨⟨l, -, rfl⟩, -⟩ := h1
  exact pl2_nonneg hd _ _
end
end Go.Proofs.Ytlgeoilnjgojnaa
