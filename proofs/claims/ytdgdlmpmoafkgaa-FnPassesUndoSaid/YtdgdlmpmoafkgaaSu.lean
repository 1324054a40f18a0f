/- Passes sort: plain. No condition. -/
import Derived.Test.YtdgdlmpmoafkgaaSp
namespace Go.Proofs.Ytdgdlmpmoafkgaa
open Go.RowKit

theorem boxOf_now {zs now : List Int} {k p x : Nat} (hn : rowB 9 now = true) (hx : x < now.length) : boxOf now (boxesP zs k p now) x = digN zs k p x := by
  have hl := pl_lt hn hx
  have hg := pl_get hn hx
  unfold boxOf
  rw [getD_get (show pl now (x : Int) < (boxesP zs k p now).length by rw [boxesP_len]; exact hl)]
  simp only [boxesP, List.getElem_map, hg, Int.toNat_natCast]

theorem lex_lt {a b u v P : Nat} (hu : u < P) (hv : v < P) : u + P * a < v + P * b ↔ a < b ∨ (a = b ∧ u < v) := by
  rcases Nat.lt_trichotomy a b with h | h | h
  · have : P * (a + 1) ≤ P * b := Nat.mul_le_mul_left P h
    rw [Nat.mul_add, Nat.mul_one] at this
    exact ⟨fun _ => .inl h, fun _ => by omega⟩
  · subst h
    exact ⟨fun hlt => .inr ⟨rfl, by omega⟩, fun hlt => by rcases hlt with hlt | ⟨_, hlt⟩ <;> omega⟩
  · have : P * (b + 1) ≤ P * a := Nat.mul_le_mul_left P h
    rw [Nat.mul_add, Nat.mul_one] at this
    exact ⟨fun hlt => by omega, fun hlt => by rcases hlt with hlt | ⟨hlt, _⟩ <;> omega⟩
theorem lex_eq {a b u v P : Nat} (hu : u < P) (hv : v < P) : u + P * a = v + P * b ↔ a = b ∧ u = v := by
  have h1 := lex_lt (a := a) (b := b) hu hv
  have h2 := lex_lt (a := b) (b := a) hv hu
  constructor
  · intro h
    have n1 : ¬ (a < b ∨ (a = b ∧ u < v)) := fun e => by have := h1.2 e; omega
    have n2 : ¬ (b < a ∨ (b = a ∧ v < u)) := fun e => by have := h2.2 e; omega
    constructor
    · rcases Nat.lt_trichotomy a b with h | h | h
      · exact absurd (.inl h) n1
      · exact h
      · exact absurd (.inl h) n2
    · have hab : a = b := by
        rcases Nat.lt_trichotomy a b with h | h | h
        · exact absurd (.inl h) n1
        · exact h
        · exact absurd (.inl h) n2
      rcases Nat.lt_trichotomy u v with h | h | h
      · exact absurd (.inr ⟨hab, h⟩) n1
      · exact h
      · exact absurd (.inr ⟨hab.symm, h⟩) n2
  · rintro ⟨rfl, rfl⟩; rfl

theorem now_order {zs : List Int} {k : Nat} (hk : 2 ≤ k) (hz : rowB 9 zs = true) (p : Nat) {x y : Nat} (hx : x < zs.length) (hy : y < zs.length) (hxy : x ≠ y) :
    pl (nowP zs k p) (x : Int) < pl (nowP zs k p) (y : Int) ↔ runNo zs x % k ^ p < runNo zs y % k ^ p ∨ (runNo zs x % k ^ p = runNo zs y % k ^ p ∧ pl zs (x : Int) < pl zs (y : Int)) := by
  induction p with
  | zero => simp [nowP, Nat.mod_one]
  | succ p ih =>
    have hperm := nowP_perm (zs := zs) (k := k) (by omega) p
    have hrow := rowB_perm hperm hz
    have hl := hperm.length_eq
    have ho := pass_order hrow (boxesP_len zs k p _) (boxesP_range (by omega)) (show x < (nowP zs k p).length by omega) (show y < (nowP zs k p).length by omega) hxy
    rw [boxOf_now hrow (by omega), boxOf_now hrow (by omega)] at ho
    rw [show nowP zs k (p + 1) = passL (nowP zs k p) (boxesP zs k p (nowP zs k p)) k from rfl, ho, ih]
    have hP : 0 < k ^ p := Nat.pow_pos (by omega)
    rw [Nat.mod_pow_succ, Nat.mod_pow_succ]
    have hu := Nat.mod_lt (runNo zs x) hP
    have hv := Nat.mod_lt (runNo zs y) hP
    rw [lex_lt hu hv, lex_eq hu hv]
    unfold digN
    constructor
    · rintro (h | ⟨h, h2 | ⟨h2, h3⟩⟩)
      · exact .inl (.inl h)
      · exact .inl (.inr ⟨h, h2⟩)
      · exact .inr ⟨⟨h, h2⟩, h3⟩
    · rintro ((h | ⟨h, h2⟩) | ⟨⟨h, h2⟩, h3⟩)
      · exact .inl h
      · exact .inr ⟨h, .inl h2⟩
      · exact .inr ⟨h, .inr ⟨h2, h3⟩⟩

theorem runNo_mono {zs : List Int} {x y : Nat} (h : x ≤ y) : runNo zs x ≤ runNo zs y := by
  induction y with
  | zero => rw [show x = 0 by omega]; exact Nat.le_refl _
  | succ y ih =>
    by_cases e : x = y + 1
    · rw [e]; exact Nat.le_refl _
    · have := ih (by omega)
      simp only [runNo]; omega
theorem run_same {zs : List Int} (hz : rowB 9 zs = true) {x y : Nat} (h : x < y) (hy : y < zs.length) (he : runNo zs x = runNo zs y) : pl zs (x : Int) < pl zs (y : Int) := by
  induction y with
  | zero => omega
  | succ y ih =>
    have hm := runNo_mono (zs := zs) (show x ≤ y by omega)
    have e1 : runNo zs (y + 1) = runNo zs y + if pl zs ((y + 1 : Nat) : Int) < pl zs (y : Int) then 1 else 0 := rfl
    by_cases hd : pl zs ((y + 1 : Nat) : Int) < pl zs (y : Int)
    · rw [if_pos hd] at e1; omega
    · have hne : pl zs ((y + 1 : Nat) : Int) ≠ pl zs (y : Int) := fun e => by have := pl_inj' hz hy (by omega) e; omega
      by_cases e : x = y
      · subst e; omega
      · rw [if_neg hd] at e1
        have := ih (by omega) (by omega) (by omega)
        omega

theorem sorted_of {now : List Int} (hn : rowB 9 now = true) (h : ∀ x y, x < y → y < now.length → pl now (x : Int) < pl now (y : Int)) : now = tab now.length (fun j => (j : Int)) := by
  have hge : ∀ x, x < now.length → x ≤ pl now (x : Int) := by
    intro x
    induction x with
    | zero => intro _; omega
    | succ x ih => intro hx; have := ih (by omega); have := h x (x + 1) (by omega) hx; omega
  have hle : ∀ d x, x + d + 1 = now.length → pl now (x : Int) ≤ x := by
    intro d
    induction d with
    | zero => intro x hx; have := pl_lt hn (show x < now.length by omega); omega
    | succ d ih => intro x hx; have := ih (x + 1) (by omega); have := h x (x + 1) (by omega) (by omega); omega
  apply List.ext_getElem
  · rw [tab_length]
  · intro i h1 h2
    rw [tab_get h1]
    have hp : pl now (i : Int) = i := by have := hge i h1; have := hle (now.length - 1 - i) i (by omega); omega
    have := pl_get hn h1
    simp only [hp] at this
    exact this

theorem sorts {zs : List Int} {k : Nat} (hk : 2 ≤ k) (hk4 : k ≤ 4) (hz : rowB 9 zs = true) : nowP zs k (passN (runsNat zs) k) = tab zs.length (fun j => (j : Int)) := by
  have hm4 := passN_le (runsNat zs) k
  have hn9 := runsNat_le hz
  have hlt := passN_lt (j := passN (runsNat zs) k) hn9 hk hk4 (by omega)
  obtain ⟨m, hm⟩ : ∃ m, passN (runsNat zs) k = m := ⟨_, rfl⟩
  rw [hm] at hlt ⊢
  have hpow : runsNat zs ≤ k ^ m := by
    rcases Nat.lt_or_ge (k ^ m) (runsNat zs) with h | h
    · exact absurd (hlt.1 h) (by omega)
    · exact h
  have hperm := nowP_perm (zs := zs) (k := k) (by omega) m
  have hrow := rowB_perm hperm hz
  have hl := hperm.length_eq
  have hs := sorted_of hrow (fun x y hxy hy => by
    have hy' : y < zs.length := by omega
    have hx' : x < zs.length := by omega
    have hr : ∀ z, z < zs.length → runNo zs z % k ^ m = runNo zs z := fun z hz2 => by
      have h1 := runNo_mono (zs := zs) (show z ≤ zs.length - 1 by omega)
      have h2 : runsNat zs = runNo zs (zs.length - 1) + 1 := by unfold runsNat; rw [if_neg (by omega)]
      exact Nat.mod_eq_of_lt (by omega)
    refine (now_order hk hz m hx' hy' (by omega)).2 ?_
    rw [hr x hx', hr y hy']
    have hmn := runNo_mono (zs := zs) (show x ≤ y by omega)
    rcases Nat.lt_or_ge (runNo zs x) (runNo zs y) with h | h
    · exact .inl h
    · exact .inr ⟨by omega, run_same hz hxy hy' (by omega)⟩)
  rw [hl] at hs
  exact hs
end Go.Proofs.Ytdgdlmpmoafkgaa
