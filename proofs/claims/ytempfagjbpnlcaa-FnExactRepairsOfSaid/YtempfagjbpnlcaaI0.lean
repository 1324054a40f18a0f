/- Rising rows, plain. No condition. -/
import Derived.Test.YtempfagjbpnlcaaS2
namespace Go.Proofs.Ytempfagjbpnlcaa
open Go.RowKit

/-- Over the first k places: one more than what is less than the number at place i. -/
def upTo (zs : List Int) (f : Nat → Nat) (i : Nat) : Nat → Nat
  | 0 => 1
  | k + 1 => if zs.getD k 0 < zs.getD i 0 then max (upTo zs f i k) (f k + 1) else upTo zs f i k
def upF (zs : List Int) : Nat → Nat → Nat
  | 0 => fun _ => 0
  | n + 1 => fun j => if j = n then upTo zs (upF zs n) n n else upF zs n j
/-- How long the longest rising row is that ends at place i. -/
def up (zs : List Int) (i : Nat) : Nat := upF zs (i + 1) i

theorem upTo_congr {zs : List Int} {f g : Nat → Nat} {i m : Nat} (h : ∀ k, k < m → f k = g k) : upTo zs f i m = upTo zs g i m := by
  induction m with
  | zero => rfl
  | succ m ih => simp only [upTo]; rw [ih (fun k hk => h k (by omega)), h m (by omega)]
theorem upF_up (zs : List Int) {n j : Nat} (h : j < n) : upF zs n j = up zs j := by
  induction n with
  | zero => omega
  | succ n ih =>
    by_cases hj : j = n
    · subst hj; rfl
    · simp only [upF]; rw [if_neg hj, ih (by omega)]
theorem up_eq (zs : List Int) (i : Nat) : up zs i = upTo zs (up zs) i i := by
  show upF zs (i + 1) i = _
  simp only [upF, if_true]
  exact upTo_congr fun k hk => upF_up zs hk
theorem upTo_pos (zs : List Int) (f : Nat → Nat) (i m : Nat) : 1 ≤ upTo zs f i m := by
  induction m with
  | zero => exact Nat.le_refl _
  | succ m ih => simp only [upTo]; split <;> omega
theorem upTo_ge {zs : List Int} {f : Nat → Nat} {i m k : Nat} (hk : k < m) (h : zs.getD k 0 < zs.getD i 0) : f k + 1 ≤ upTo zs f i m := by
  induction m with
  | zero => omega
  | succ m ih =>
    simp only [upTo]
    by_cases hkm : k = m
    · subst hkm; rw [if_pos h]; omega
    · have := ih (by omega); split <;> omega
theorem upTo_from (zs : List Int) (f : Nat → Nat) (i m : Nat) : upTo zs f i m = 1 ∨ ∃ k, k < m ∧ zs.getD k 0 < zs.getD i 0 ∧ upTo zs f i m = f k + 1 := by
  induction m with
  | zero => exact .inl rfl
  | succ m ih =>
    simp only [upTo]
    by_cases h : zs.getD m 0 < zs.getD i 0
    · rw [if_pos h]
      by_cases hc : upTo zs f i m ≤ f m + 1
      · exact .inr ⟨m, by omega, h, by omega⟩
      · rcases ih with ih | ⟨k, h1, h2, h3⟩
        · exact .inl (by omega)
        · exact .inr ⟨k, by omega, h2, by omega⟩
    · rw [if_neg h]
      rcases ih with ih | ⟨k, h1, h2, h3⟩
      · exact .inl ih
      · exact .inr ⟨k, by omega, h2, h3⟩
theorem up_pos (zs : List Int) (i : Nat) : 1 ≤ up zs i := by rw [up_eq]; exact upTo_pos ..
theorem up_gt {zs : List Int} {i k : Nat} (hk : k < i) (h : zs.getD k 0 < zs.getD i 0) : up zs k + 1 ≤ up zs i := by rw [up_eq zs i]; exact upTo_ge hk h
theorem up_from (zs : List Int) (i : Nat) : up zs i = 1 ∨ ∃ k, k < i ∧ zs.getD k 0 < zs.getD i 0 ∧ up zs i = up zs k + 1 := by rw [up_eq]; exact upTo_from ..
theorem up_le (zs : List Int) (i : Nat) : up zs i ≤ i + 1 := by
  induction i using Nat.strongRecOn with
  | _ i ih =>
    rcases up_from zs i with h | ⟨k, h1, _, h3⟩
    · omega
    · have := ih k h1; omega

/-- The greatest over the first m places. -/
def lisTo (zs : List Int) : Nat → Nat
  | 0 => 0
  | m + 1 => max (lisTo zs m) (up zs m)
def lis (zs : List Int) : Nat := lisTo zs zs.length
theorem lisTo_ge (zs : List Int) {m i : Nat} (h : i < m) : up zs i ≤ lisTo zs m := by
  induction m with
  | zero => omega
  | succ m ih =>
    simp only [lisTo]
    by_cases hi : i = m
    · subst hi; omega
    · have := ih (by omega); omega
theorem lisTo_at (zs : List Int) {m : Nat} (h : 0 < m) : ∃ i, i < m ∧ up zs i = lisTo zs m := by
  induction m with
  | zero => omega
  | succ m ih =>
    simp only [lisTo]
    by_cases hm : m = 0
    · subst hm; exact ⟨0, by omega, by simp [lisTo]⟩
    · obtain ⟨i, h1, h2⟩ := ih (by omega)
      by_cases hc : lisTo zs m ≤ up zs m
      · exact ⟨m, by omega, by omega⟩
      · exact ⟨i, by omega, by omega⟩
theorem lisTo_le (zs : List Int) (m : Nat) : lisTo zs m ≤ m := by
  induction m with
  | zero => simp [lisTo]
  | succ m ih => simp only [lisTo]; have := up_le zs m; omega
theorem lis_pos {zs : List Int} (h : 0 < zs.length) : 1 ≤ lis zs := by
  have := lisTo_ge zs h; have := up_pos zs 0; unfold lis; omega

/-! Chains of places. -/
def Chain (zs : List Int) (js : List Nat) : Prop := js.Pairwise (fun a b => a < b ∧ zs.getD a 0 < zs.getD b 0) ∧ ∀ a ∈ js, a < zs.length
def valsOf (zs : List Int) (js : List Nat) : List Int := js.map fun a => zs.getD a 0

theorem chain_up {zs : List Int} (js : List Nat) : ∀ j, Chain zs (js ++ [j]) → js.length + 1 ≤ up zs j := by
  induction hn : js.length generalizing js with
  | zero => intro j _; have := up_pos zs j; omega
  | succ n ih =>
    intro j h
    obtain ⟨q, i, rfl⟩ : ∃ q i, js = q ++ [i] := ⟨js.dropLast, js.getLast (by intro e; simp [e] at hn), (List.dropLast_concat_getLast _).symm⟩
    have hp := List.pairwise_append.1 h.1
    have h1 := ih q (by simpa using hn) i ⟨hp.1, fun a ha => h.2 a (by simp only [List.mem_append, List.mem_singleton] at ha ⊢; exact .inl ha)⟩
    have h2 := hp.2.2 i (by simp) j (by simp)
    have := up_gt h2.1 h2.2
    omega
theorem chain_of_up {zs : List Int} (j : Nat) (hj : j < zs.length) : ∃ js, Chain zs (js ++ [j]) ∧ js.length + 1 = up zs j := by
  induction j using Nat.strongRecOn with
  | _ j ih =>
    rcases up_from zs j with h | ⟨k, h1, h2, h3⟩
    · exact ⟨[], ⟨by simp, by simpa using hj⟩, by simp [h]⟩
    · obtain ⟨js, hc, hl⟩ := ih k h1 (by omega)
      refine ⟨js ++ [k], ⟨List.pairwise_append.2 ⟨hc.1, by simp, ?_⟩, fun a ha => ?_⟩, by simp; omega⟩
      · intro a ha b hb
        simp only [List.mem_singleton] at hb
        subst hb
        rcases List.mem_append.1 ha with ha | ha
        · have := (List.pairwise_append.1 hc.1).2.2 a ha k (by simp)
          exact ⟨by omega, by omega⟩
        · simp only [List.mem_singleton] at ha
          subst ha
          exact ⟨h1, h2⟩
      · rcases List.mem_append.1 ha with ha | ha
        · exact hc.2 a ha
        · simp only [List.mem_singleton] at ha; subst ha; exact hj
theorem chain_lis {zs : List Int} {js : List Nat} (h : Chain zs js) : js.length ≤ lis zs := by
  by_cases he : js = []
  · simp [he]
  · have e := List.dropLast_concat_getLast he
    rw [← e] at h
    have h1 := chain_up _ _ h
    have h2 : js.getLast he < zs.length := h.2 _ (by simp)
    have h3 := lisTo_ge zs h2
    have h4 : js.length = js.dropLast.length + 1 := by simp; have := List.length_pos_iff.2 he; omega
    unfold lis; omega
theorem chain_of_lis (zs : List Int) : ∃ js, Chain zs js ∧ js.length = lis zs := by
  by_cases h : 0 < zs.length
  · obtain ⟨i, h1, h2⟩ := lisTo_at zs h
    obtain ⟨js, hc, hl⟩ := chain_of_up i h1
    exact ⟨_, hc, by simp; unfold lis; omega⟩
  · exact ⟨[], ⟨by simp, by simp⟩, by have := lisTo_le zs zs.length; unfold lis; simp; omega⟩

/-! As many as at least. -/
theorem getD_rev {zs : List Int} {i : Nat} (h : i < zs.length) : zs.reverse.getD (zs.length - 1 - i) 0 = zs.getD i 0 := by
  rw [getD_get (by simp; omega), getD_get h, List.getElem_reverse]
  congr 1
  omega
theorem lis_rev_mul {m : Nat} {zs : List Int} (hv : rowB m zs = true) : zs.length ≤ lis zs * lis zs.reverse := by
  have key : ((List.range zs.length).map fun i => (up zs i - 1) * lis zs.reverse + (up zs.reverse (zs.length - 1 - i) - 1)).Nodup := by
    rw [List.nodup_iff_pairwise_ne, List.pairwise_iff_getElem]
    intro i j hi hj hij
    simp only [List.length_map, List.length_range] at hi hj
    simp only [List.getElem_map, List.getElem_range]
    have hr : ∀ i, i < zs.length → up zs.reverse (zs.length - 1 - i) ≤ lis zs.reverse := fun i hi => lisTo_ge _ (by simp; omega)
    have hri := hr i hi
    have hrj := hr j hj
    have hpi := up_pos zs.reverse (zs.length - 1 - i)
    have hpj := up_pos zs.reverse (zs.length - 1 - j)
    have hui := up_pos zs i
    have huj := up_pos zs j
    have hmul : ∀ a b x y M : Nat, x < M → y < M → a * M + x = b * M + y → a = b ∧ x = y := by
      intro a b x y M hx hy he
      have h1 : a = b := by
        have e1 : (a * M + x) / M = a := by rw [Nat.add_comm, Nat.add_mul_div_right _ _ (by omega), Nat.div_eq_of_lt hx]; omega
        have e2 : (b * M + y) / M = b := by rw [Nat.add_comm, Nat.add_mul_div_right _ _ (by omega), Nat.div_eq_of_lt hy]; omega
        rw [← e1, ← e2, he]
      subst h1
      exact ⟨rfl, by omega⟩
    intro he
    have := hmul _ _ _ _ _ (by omega) (by omega) he
    by_cases hlt : zs.getD i 0 < zs.getD j 0
    · have := up_gt hij hlt
      omega
    · have hne : zs.getD i 0 ≠ zs.getD j 0 := fun e => by
        rw [getD_get hi, getD_get hj] at e
        have := rowB_nodup hv i j hi hj e
        omega
      have := up_gt (zs := zs.reverse) (show zs.length - 1 - j < zs.length - 1 - i by omega) (by rw [getD_rev hi, getD_rev hj]; omega)
      omega
  have := nodup_le (l' := List.range (lis zs * lis zs.reverse)) key (fun y hy => by
    obtain ⟨i, hi, rfl⟩ := List.mem_map.1 hy
    rw [List.mem_range] at hi ⊢
    have h1 : up zs i ≤ lis zs := lisTo_ge _ hi
    have h2 : up zs.reverse (zs.length - 1 - i) ≤ lis zs.reverse := lisTo_ge _ (by simp; omega)
    have h3 := up_pos zs i
    have h4 := up_pos zs.reverse (zs.length - 1 - i)
    have h5 : (up zs i - 1 + 1) * lis zs.reverse ≤ lis zs * lis zs.reverse := Nat.mul_le_mul_right _ (by omega)
    rw [Nat.add_mul] at h5
    omega)
  simpa using this

/-! In order. -/
theorem up_all {zs : List Int} {i : Nat} (h : up zs i = i + 1) : ∀ k, k < i → zs.getD k 0 < zs.getD (k + 1) 0 := by
  induction i with
  | zero => intro k hk; omega
  | succ i ih =>
    rcases up_from zs (i + 1) with h1 | ⟨k, h1, h2, h3⟩
    · omega
    · have := up_le zs k
      have hk : k = i := by omega
      subst hk
      intro k' hk'
      by_cases e : k' = k
      · subst e; exact h2
      · exact ih (by omega) k' (by omega)
theorem lis_all {m : Nat} {zs : List Int} (hv : rowB m zs = true) (h : lis zs = zs.length) : zs = tab zs.length (fun j => (j : Int)) := by
  by_cases h0 : 0 < zs.length
  · obtain ⟨i, h1, h2⟩ := lisTo_at zs h0
    have h3 := up_le zs i
    have hi : i = zs.length - 1 := by unfold lis at h; omega
    have ha := up_all (zs := zs) (i := i) (by unfold lis at h; omega)
    have lo : ∀ k : Nat, k < zs.length → (k : Int) ≤ zs.getD k 0 := by
      intro k
      induction k with
      | zero => intro hk; rw [getD_get hk]; exact (rowB_at hv hk).1.1
      | succ k ih => intro hk; have := ih (by omega); have := ha k (by omega); omega
    have hi2 : ∀ t k : Nat, k + t + 1 = zs.length → zs.getD k 0 ≤ (k : Int) := by
      intro t
      induction t with
      | zero => intro k hk; rw [getD_get (by omega)]; have := (rowB_at hv (show k < zs.length by omega)).1.2; omega
      | succ t ih => intro k hk; have := ih (k + 1) (by omega); have := ha k (by omega); omega
    apply List.ext_getElem (by rw [tab_length])
    intro k hk hk2
    rw [tab_get (by rw [tab_length] at hk2; exact hk2)]
    have := lo k hk
    have := hi2 (zs.length - 1 - k) k (by omega)
    rw [← getD_get hk]
    omega
  · have : zs = [] := List.eq_nil_of_length_eq_zero (by omega)
    subst this; rfl
theorem getD_tab {n k : Nat} (f : Nat → Int) (h : k < n) : (tab n f).getD k 0 = f k := by rw [getD_get (by rw [tab_length]; exact h), tab_get h]
theorem up_tab {n i : Nat} (h : i < n) : up (tab n fun j => (j : Int)) i = i + 1 := by
  induction i with
  | zero => have := up_le (tab n fun j => (j : Int)) 0; have := up_pos (tab n fun j => (j : Int)) 0; omega
  | succ i ih =>
    have h1 := ih (by omega)
    have h2 := up_gt (zs := tab n fun j => (j : Int)) (show i < i + 1 by omega) (by rw [getD_tab _ h, getD_tab _ (by omega)]; omega)
    have h3 := up_le (tab n fun j => (j : Int)) (i + 1)
    omega
theorem lis_tab (n : Nat) : lis (tab n fun j => (j : Int)) = n := by
  unfold lis
  rw [tab_length]
  have h1 := lisTo_le (tab n fun j => (j : Int)) n
  by_cases h : 0 < n
  · have := lisTo_ge (tab n fun j => (j : Int)) (show n - 1 < n by omega)
    rw [up_tab (by omega)] at this
    omega
  · omega
theorem lis_tab_rev (n : Nat) (h : 0 < n) : lis (tab n fun j => (j : Int)).reverse = 1 := by
  have hp := lis_pos (zs := (tab n fun j => (j : Int)).reverse) (by simp [tab_length]; exact h)
  obtain ⟨i, h1, h2⟩ := lisTo_at (tab n fun j => (j : Int)).reverse (m := (tab n fun j => (j : Int)).reverse.length) (by simp [tab_length]; exact h)
  rcases up_from (tab n fun j => (j : Int)).reverse i with h3 | ⟨k, h3, h4, _⟩
  · unfold lis; omega
  · simp only [List.length_reverse, tab_length] at h1
    have g : ∀ j, j < n → (tab n fun j => (j : Int)).reverse.getD j 0 = ((n - 1 - j : Nat) : Int) := fun j hj => by
      have := getD_rev (zs := tab n fun j => (j : Int)) (i := n - 1 - j) (by rw [tab_length]; omega)
      rw [tab_length, getD_tab _ (by omega), show n - 1 - (n - 1 - j) = j by omega] at this
      exact this
    rw [g k (by omega), g i h1] at h4
    omega

/-! Rising and falling rows share one place at most. -/
theorem nodup_one {α : Type} {l : List α} (hn : l.Nodup) (h : ∀ x ∈ l, ∀ y ∈ l, x = y) : l.length ≤ 1 := by
  match l, hn, h with
  | [], _, _ => simp
  | [_], _, _ => simp
  | a :: b :: t, hn, h =>
    have := h a (by simp) b (by simp)
    subst this
    simp at hn
theorem chain_nodup {zs : List Int} {js : List Nat} (h : Chain zs js) : js.Nodup := by
  rw [List.nodup_iff_pairwise_ne]
  exact h.1.imp fun h => by omega
theorem lis_rev_add (zs : List Int) : lis zs + lis zs.reverse ≤ zs.length + 1 := by
  obtain ⟨a, ha, hla⟩ := chain_of_lis zs
  obtain ⟨b, hb, hlb⟩ := chain_of_lis zs.reverse
  have hbr : ∀ x ∈ b, x < zs.length := fun x hx => by have := hb.2 x hx; simpa using this
  let d := b.map fun x => zs.length - 1 - x
  have hdn : d.Nodup := by
    rw [List.nodup_iff_pairwise_ne, List.pairwise_map]
    exact hb.1.imp_of_mem fun {x y} hx hy h => by have := hbr x hx; have := hbr y hy; omega
  have hcomm : (d.filter fun x => decide (x ∈ a)).length ≤ 1 := by
    refine nodup_one (hdn.filter _) fun x hx y hy => ?_
    obtain ⟨hx1, hx2⟩ := List.mem_filter.1 hx
    obtain ⟨hy1, hy2⟩ := List.mem_filter.1 hy
    have hx3 : x ∈ a := by simpa using hx2
    have hy3 : y ∈ a := by simpa using hy2
    obtain ⟨x', hx4, rfl⟩ := List.mem_map.1 hx1
    obtain ⟨y', hy4, rfl⟩ := List.mem_map.1 hy1
    have bx := hbr x' hx4
    have bY := hbr y' hy4
    have tri : ∀ (l : List Nat) (R : Nat → Nat → Prop), l.Pairwise R → ∀ x ∈ l, ∀ y ∈ l, x = y ∨ R x y ∨ R y x := by
      intro l R hp x hx y hy
      obtain ⟨i, hi, rfl⟩ := List.getElem_of_mem hx
      obtain ⟨j, hj, rfl⟩ := List.getElem_of_mem hy
      rcases Nat.lt_trichotomy i j with h | h | h
      · exact .inr (.inl (List.pairwise_iff_getElem.1 hp i j hi hj h))
      · subst h; exact .inl rfl
      · exact .inr (.inr (List.pairwise_iff_getElem.1 hp j i hj hi h))
    have e : ∀ x, x < zs.length → zs.reverse.getD x 0 = zs.getD (zs.length - 1 - x) 0 := fun x hx => by
      have := getD_rev (zs := zs) (i := zs.length - 1 - x) (by omega)
      rw [show zs.length - 1 - (zs.length - 1 - x) = x by omega] at this
      exact this
    have t1 := tri _ _ ha.1 _ hx3 _ hy3
    have t2 := tri _ _ hb.1 _ hx4 _ hy4
    rw [e x' bx, e y' bY] at t2
    omega
  have hsplit : d.length = (d.filter fun x => decide (x ∈ a)).length + (d.filter fun x => !decide (x ∈ a)).length := by
    rw [← List.countP_eq_length_filter, ← List.countP_eq_length_filter, List.length_eq_countP_add_countP (fun x => decide (x ∈ a))]
    congr 1
    exact List.countP_congr (fun x _ => by simp)
  have hall : (a ++ d.filter fun x => !decide (x ∈ a)).Nodup := by
    rw [List.nodup_append]
    refine ⟨chain_nodup ha, hdn.filter _, fun x hx y hy => ?_⟩
    have := (List.mem_filter.1 hy).2
    simp at this
    intro e; subst e; exact this hx
  have := nodup_le (l' := List.range zs.length) hall (fun y hy => by
    rw [List.mem_range]
    rcases List.mem_append.1 hy with h | h
    · exact ha.2 y h
    · obtain ⟨x, hx, rfl⟩ := List.mem_map.1 (List.mem_filter.1 h).1
      have := hbr x hx
      omega)
  simp only [List.length_append, List.length_range] at this
  have hd : d.length = b.length := by simp [d]
  omega
end Go.Proofs.Ytempfagjbpnlcaa
