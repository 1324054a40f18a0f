/- Chains, plain: the first one with the least sum. No condition. -/
import Derived.Test.YtjklnknlifpidaaU0
namespace Go.Proofs.Ytjklnknlifpidaa
open Go.RowKit

def csum (D : Nat → Nat → Int) : Nat → List Nat → Int
  | _, [] => 0
  | x, y :: r => D x y + csum D y r
/-- Where a chain ends. -/
def ends : Nat → List Nat → Nat
  | x, [] => x
  | _, y :: r => ends y r
def val (n : Nat) (t : List Nat) : Nat := t.foldl (fun a d => a * n + d) 0
def digs (n : Nat) : Nat → Nat → List Nat
  | 0, _ => []
  | b + 1, r => digs n b (r / n) ++ [r % n]
theorem csum_app (D : Nat → Nat → Int) (x : Nat) (s t : List Nat) : csum D x (s ++ t) = csum D x s + csum D (ends x s) t := by
  induction s generalizing x with
  | nil => simp [csum, ends]
  | cons y s ih => simp only [List.cons_append, csum, ends, ih]; omega
theorem ends_app (x : Nat) (s t : List Nat) : ends x (s ++ t) = ends (ends x s) t := by
  induction s generalizing x with
  | nil => rfl
  | cons y s ih => simp only [List.cons_append, ends, ih]
theorem ends_lt {n x : Nat} {t : List Nat} (hx : x < n) (ht : ∀ y ∈ t, y < n) : ends x t < n := by
  induction t generalizing x with
  | nil => exact hx
  | cons y t ih => exact ih (ht y (by simp)) (fun z hz => ht z (by simp [hz]))
theorem csum_nonneg {n : Nat} {D : Nat → Nat → Int} (h : RM n D) {x : Nat} {t : List Nat} (hx : x < n) (ht : ∀ y ∈ t, y < n) : 0 ≤ csum D x t := by
  induction t generalizing x with
  | nil => exact Int.le_refl _
  | cons y t ih =>
    have hy := ht y (by simp)
    have h1 := ih hy (fun z hz => ht z (by simp [hz]))
    have h2 := h.lo x y hx hy
    simp only [csum]; omega
theorem csum_hi {n : Nat} {D : Nat → Nat → Int} (h : RM n D) {x : Nat} {t : List Nat} (hx : x < n) (ht : ∀ y ∈ t, y < n) : csum D x t ≤ 140 * t.length := by
  induction t generalizing x with
  | nil => exact Int.le_refl _
  | cons y t ih =>
    have hy := ht y (by simp)
    have h1 := ih hy (fun z hz => ht z (by simp [hz]))
    have h2 := h.hi x y hx hy
    simp only [csum, List.length_cons]; push_cast; omega
theorem csum_least {n : Nat} {D : Nat → Nat → Int} (h : RM n D) {x : Nat} {t : List Nat} (hx : x < n) (ht : ∀ y ∈ t, y < n) : fw7 n D x (ends x t) ≤ csum D x t := by
  induction t generalizing x with
  | nil => simp only [csum, ends]; rw [(fw_rm h).dg x hx]; exact Int.le_refl _
  | cons y t ih =>
    have hy := ht y (by simp)
    have ht' : ∀ z ∈ t, z < n := fun z hz => ht z (by simp [hz])
    have h1 := ih hy ht'
    have h2 := fw_le h x y hx hy
    have h3 := fw_fair h x y _ hx hy (ends_lt hy ht')
    simp only [csum, ends]; omega

/-- Each least sum is that of some chain. -/
def HasCh (n : Nat) (D E : Nat → Nat → Int) : Prop := ∀ i k, i < n → k < n → ∃ t, (∀ y ∈ t, y < n) ∧ ends i t = k ∧ csum D i t = E i k
theorem hasCh_fm {n : Nat} {D : Nat → Nat → Int} (h : RM n D) : ∀ {m : Nat}, m ≤ n → HasCh n D (fm n D m)
  | 0, _ => fun i k _ hk => ⟨[k], by simpa using hk, rfl, by simp [csum, fm]⟩
  | m + 1, hm => fun i k hi hk => by
    have ih := hasCh_fm h (m := m) (by omega)
    have hmid := Mid.upto h (m := m) (by omega)
    have hv : fm n D (m + 1) i k = _ := fm_next hmid.rm.dg (show m < n by omega) hi hk
    rw [hv]
    unfold minI
    split
    · obtain ⟨t1, a1, a2, a3⟩ := ih i m hi (by omega)
      obtain ⟨t2, b1, b2, b3⟩ := ih m k (by omega) hk
      refine ⟨t1 ++ t2, fun y hy => ?_, by rw [ends_app, a2, b2], by rw [csum_app, a2, a3, b3]⟩
      rcases List.mem_append.1 hy with hy | hy
      · exact a1 y hy
      · exact b1 y hy
    · exact ih i k hi hk
theorem hasCh {n : Nat} {D : Nat → Nat → Int} (h : RM n D) : HasCh n D (fw7 n D) := hasCh_fm h (Nat.le_refl _)

/-- No zone twice, and no dearer: shorter, or the same. -/
theorem once {n : Nat} {D : Nat → Nat → Int} (h : RM n D) (t : List Nat) : ∀ {x : Nat}, x < n → (∀ y ∈ t, y < n) → ∃ t', (∀ y ∈ t', y < n) ∧ ends x t' = ends x t ∧ csum D x t' ≤ csum D x t ∧ (x :: t').Nodup ∧ (t' = t ∨ t'.length < t.length) := by
  induction t with
  | nil => exact fun {x} hx _ => ⟨[], fun y hy => by simp at hy, rfl, Int.le_refl _, by simp, .inl rfl⟩
  | cons m t ih =>
    intro x hx ht
    have hm := ht m (by simp)
    obtain ⟨t', a1, a2, a3, a4, a5⟩ := ih hm (fun z hz => ht z (by simp [hz]))
    have hlo := h.lo x m hx hm
    by_cases e : x ∈ m :: t'
    · obtain ⟨p, q, hpq⟩ := List.append_of_mem e
      have hends : ends x q = ends m t' := by
        cases p with
        | nil => simp at hpq; obtain ⟨rfl, rfl⟩ := hpq; rfl
        | cons a p => simp at hpq; obtain ⟨rfl, rfl⟩ := hpq; rw [ends_app]; rfl
      have hall : ∀ y ∈ q, y < n := fun y hy => by
        have : y ∈ m :: t' := by rw [hpq]; simp [hy]
        rcases List.mem_cons.1 this with rfl | h2
        · exact hm
        · exact a1 y h2
      have hsum : csum D x q ≤ csum D m t' := by
        cases p with
        | nil => simp at hpq; obtain ⟨rfl, rfl⟩ := hpq; exact Int.le_refl _
        | cons a p =>
          simp at hpq
          obtain ⟨rfl, rfl⟩ := hpq
          rw [csum_app]
          have h1 := csum_nonneg h hm (t := p) (fun y hy => a1 y (by simp [hy]))
          have h2 := h.lo (ends m p) x (ends_lt hm (fun y hy => a1 y (by simp [hy]))) hx
          simp only [csum]; omega
      have hlen : q.length ≤ t'.length := by
        have : (m :: t').length = (p ++ x :: q).length := by rw [hpq]
        simp at this; omega
      refine ⟨q, hall, by rw [hends, a2]; rfl, by simp only [csum]; omega, ?_, .inr ?_⟩
      · rw [hpq] at a4
        exact (List.nodup_append.1 a4).2.1
      · rcases a5 with rfl | h5
        · simp; omega
        · simp; omega
    · refine ⟨m :: t', fun y hy => ?_, by simp only [ends]; exact a2, by simp only [csum]; omega, List.nodup_cons.2 ⟨e, a4⟩, ?_⟩
      · rcases List.mem_cons.1 hy with rfl | h2
        · exact hm
        · exact a1 y h2
      · rcases a5 with rfl | h5
        · exact .inl rfl
        · exact .inr (by simp; omega)
theorem few {n : Nat} : ∀ {l : List Nat}, l.Nodup → (∀ y ∈ l, y < n) → l.length ≤ n := by
  induction n with
  | zero => intro l _ h; cases l with
    | nil => simp
    | cons y l => exact absurd (h y (by simp)) (by omega)
  | succ n ih =>
    intro l hn h
    by_cases e : n ∈ l
    · have h1 := ih (l := l.erase n) (hn.erase n) (fun y hy => by
        have h2 := h y (List.mem_of_mem_erase hy)
        have h3 : y ≠ n := fun e2 => by subst e2; exact (List.Nodup.not_mem_erase hn) hy
        omega)
      rw [List.length_erase_of_mem e] at h1
      omega
    · have := ih hn (fun y hy => by
        have h2 := h y hy
        have h3 : y ≠ n := fun e2 => by subst e2; exact e hy
        omega)
      omega

/-- The search: the first tail of so many steps with just that sum. -/
def search (D : Nat → Nat → Int) (n k : Nat) : Nat → Nat → Int → Option (List Nat)
  | 0, x, left => if x = k ∧ left = 0 then some [] else none
  | s + 1, x, left => (List.range n).findSome? fun m => if m = x ∨ left < D x m then none else (search D n k s m (left - D x m)).map (m :: ·)
theorem search_sound {D : Nat → Nat → Int} {n k : Nat} : ∀ {s x : Nat} {left : Int} {t : List Nat}, search D n k s x left = some t → t.length = s ∧ (∀ y ∈ t, y < n) ∧ ends x t = k ∧ csum D x t = left
  | 0, x, left, t, h => by
    simp only [search] at h
    split at h
    · rename_i h1
      cases h
      exact ⟨rfl, fun y hy => by simp at hy, h1.1, h1.2.symm⟩
    · cases h
  | s + 1, x, left, t, h => by
    simp only [search] at h
    obtain ⟨m, hm, h1⟩ := List.exists_of_findSome?_eq_some h
    split at h1
    · cases h1
    · rw [Option.map_eq_some_iff] at h1
      obtain ⟨t1, h2, rfl⟩ := h1
      obtain ⟨a1, a2, a3, a4⟩ := search_sound h2
      refine ⟨by simp [a1], fun y hy => ?_, a3, by simp only [csum]; omega⟩
      rcases List.mem_cons.1 hy with rfl | h2
      · exact List.mem_range.1 hm
      · exact a2 y h2

theorem val_foldl (n : Nat) (t : List Nat) (a : Nat) : t.foldl (fun a d => a * n + d) a = a * n ^ t.length + val n t := by
  induction t generalizing a with
  | nil => simp [val]
  | cons d t ih =>
    have h1 := ih (a * n + d)
    have h2 := ih (0 * n + d)
    simp only [val, List.foldl_cons, List.length_cons] at h1 h2 ⊢
    rw [h1, h2, Nat.pow_succ, Nat.add_mul, Nat.zero_mul, Nat.zero_add]
    rw [Nat.mul_assoc, Nat.mul_comm n]; omega
theorem val_cons (n m : Nat) (t : List Nat) : val n (m :: t) = m * n ^ t.length + val n t := by
  have := val_foldl n t (0 * n + m)
  simp only [Nat.zero_mul, Nat.zero_add] at this
  simp only [val, List.foldl_cons, Nat.zero_mul, Nat.zero_add]
  exact this
theorem val_snoc (n d : Nat) (t : List Nat) : val n (t ++ [d]) = val n t * n + d := by simp [val]
theorem val_lt {n : Nat} {t : List Nat} (h : ∀ y ∈ t, y < n) : val n t < n ^ t.length := by
  induction t with
  | nil => simp [val]
  | cons m t ih =>
    rw [val_cons, List.length_cons, Nat.pow_succ]
    have h1 := ih (fun z hz => h z (by simp [hz]))
    have h2 := h m (by simp)
    have h3 : (m + 1) * n ^ t.length ≤ n * n ^ t.length := Nat.mul_le_mul_right _ h2
    rw [Nat.add_mul, Nat.one_mul] at h3
    rw [Nat.mul_comm (n ^ t.length) n]
    omega
/-- The search finds the first one. -/
theorem search_first {D : Nat → Nat → Int} {n k : Nat} (h : RM n D) (s : Nat) : ∀ {x : Nat} {left : Int} {t : List Nat}, x < n → t.length = s → (∀ y ∈ t, y < n) → ends x t = k → csum D x t = left → (x :: t).Nodup → ∃ t0, search D n k s x left = some t0 ∧ val n t0 ≤ val n t := by
  induction s with
  | zero =>
    intro x left t hx hl ht he hc hn
    have : t = [] := List.eq_nil_of_length_eq_zero hl
    subst this
    exact ⟨[], by simp only [search]; rw [if_pos ⟨he, hc.symm⟩], Nat.le_refl _⟩
  | succ s ih =>
    intro x left t hx hl ht he hc hn
    cases t with
    | nil => simp at hl
    | cons m t =>
      have hm := ht m (by simp)
      have ht' : ∀ z ∈ t, z < n := fun z hz => ht z (by simp [hz])
      simp only [csum] at hc
      have hnn := csum_nonneg h hm ht'
      obtain ⟨hx1, hn1⟩ := List.nodup_cons.1 hn
      have hmx : ¬ m = x := fun e => hx1 (by rw [e]; simp)
      obtain ⟨t0, h1, h2⟩ := ih (x := m) (left := left - D x m) (t := t) hm (by simpa using hl) ht' he (by omega) hn1
      have hfm : (if m = x ∨ left < D x m then none else (search D n k s m (left - D x m)).map (m :: ·)) = some (m :: t0) := by
        rw [if_neg (by omega), h1]; rfl
      obtain ⟨t1, ht1⟩ : ∃ t1, search D n k (s + 1) x left = some t1 := by
        simp only [search]
        cases hf : (List.range n).findSome? fun m => if m = x ∨ left < D x m then none else (search D n k s m (left - D x m)).map (m :: ·) with
        | some t1 => exact ⟨t1, rfl⟩
        | none =>
          have := List.findSome?_eq_none_iff.1 hf m (List.mem_range.2 hm)
          rw [hfm] at this; cases this
      refine ⟨t1, ht1, ?_⟩
      simp only [search] at ht1
      obtain ⟨l1, a, l2, hl12, ha, hb⟩ := List.findSome?_eq_some_iff.1 ht1
      have hal : a = l1.length := by
        have h3 : (List.range n)[l1.length]? = some a := by rw [hl12]; simp
        obtain ⟨h4, h5⟩ := List.getElem?_eq_some_iff.1 h3
        simpa using h5.symm
      have ham : a ≤ m := by
        apply Nat.le_of_not_lt
        intro hlt
        have hml : m ∈ l1 := by
          have h3 : (List.range n)[m]? = l1[m]? := by rw [hl12, List.getElem?_append_left (by omega)]
          have h4 : l1[m]? = some m := by rw [← h3]; simp [hm]
          exact List.mem_of_getElem? h4
        have := hb m hml
        rw [hfm] at this; cases this
      split at ha
      · cases ha
      · rw [Option.map_eq_some_iff] at ha
        obtain ⟨t2, h3, rfl⟩ := ha
        obtain ⟨g1, g2, _, _⟩ := search_sound h3
        rw [val_cons, val_cons]
        have hlt : t.length = s := by simpa using hl
        have h5 := val_lt g2
        rw [g1, hlt] at *
        by_cases e : a = m
        · subst e
          rw [h1] at h3
          cases h3
          omega
        · have h6 : (a + 1) * n ^ s ≤ m * n ^ s := Nat.mul_le_mul_right _ (by omega)
          rw [Nat.add_mul, Nat.one_mul] at h6
          omega
theorem digs_len (n : Nat) : ∀ b r, (digs n b r).length = b
  | 0, _ => rfl
  | b + 1, r => by simp [digs, digs_len n b]
theorem digs_lt {n : Nat} (hn : 0 < n) : ∀ b r, ∀ y ∈ digs n b r, y < n
  | 0, _ => fun y hy => by simp [digs] at hy
  | b + 1, r => fun y hy => by
    simp only [digs, List.mem_append, List.mem_singleton] at hy
    rcases hy with hy | rfl
    · exact digs_lt hn b _ y hy
    · exact Nat.mod_lt _ hn
theorem digs_val {n : Nat} (hn : 0 < n) : ∀ (b : Nat) (t : List Nat), t.length = b → (∀ y ∈ t, y < n) → digs n b (val n t) = t
  | 0, t, hl, _ => by rw [List.eq_nil_of_length_eq_zero hl]; rfl
  | b + 1, t, hl, ht => by
    obtain ⟨p, d, rfl⟩ : ∃ p d, t = p ++ [d] := by
      cases h : t.reverse with
      | nil => simp at h; subst h; simp at hl
      | cons d q => exact ⟨q.reverse, d, by rw [← List.reverse_reverse t, h]; simp⟩
    have hd := ht d (by simp)
    rw [val_snoc, digs, show (val n p * n + d) / n = val n p by rw [Nat.mul_comm, Nat.mul_add_div hn, Nat.div_eq_of_lt hd]; rfl, show (val n p * n + d) % n = d by rw [Nat.mul_comm, Nat.mul_add_mod, Nat.mod_eq_of_lt hd]]
    rw [digs_val hn b p (by simpa using hl) (fun y hy => ht y (by simp [hy]))]
theorem val_digs {n : Nat} (hn : 0 < n) : ∀ (b r : Nat), r < n ^ b → val n (digs n b r) = r
  | 0, r, h => by simp [digs, val] at h ⊢; omega
  | b + 1, r, h => by
    rw [digs, val_snoc, val_digs hn b (r / n) (by rw [Nat.div_lt_iff_lt_mul hn]; rw [Nat.pow_succ] at h; exact h)]
    have := Nat.div_add_mod r n
    rw [Nat.mul_comm]; exact this
end Go.Proofs.Ytjklnknlifpidaa
