/- One stack, plain. No condition. -/
import Derived.Test.YtdgdlmpmoafkgaaI1
namespace Go.Proofs.Ytdgdlmpmoafkgaa
open Go.RowKit

/-- What comes from the stack S (top first) and the letters behind. -/
def osL (S : List Int) : List Int → List Int
  | [] => S
  | x :: xs => S.takeWhile (fun t => decide (t < x)) ++ osL (x :: S.dropWhile (fun t => decide (t < x))) xs

theorem osL_pop {t x : Int} {S xs : List Int} (h : t < x) : osL (t :: S) (x :: xs) = t :: osL S (x :: xs) := by
  simp [osL, h]
theorem osL_put_nil {x : Int} {xs : List Int} : osL [] (x :: xs) = osL [x] xs := by simp [osL]
theorem osL_put {t x : Int} {S xs : List Int} (h : ¬ t < x) : osL (t :: S) (x :: xs) = osL (x :: t :: S) xs := by
  simp [osL, h]

theorem osL_perm (S xs : List Int) : (osL S xs).Perm (S ++ xs) := by
  induction xs generalizing S with
  | nil => simp [osL]
  | cons x xs ih =>
    simp only [osL]
    have h1 := ih (x :: S.dropWhile fun t => decide (t < x))
    have h2 : (S.takeWhile (fun t => decide (t < x)) ++ S.dropWhile (fun t => decide (t < x))) = S := List.takeWhile_append_dropWhile
    refine (h1.append_left _).trans ?_
    rw [← List.append_assoc]
    conv => rhs; rw [← h2]
    rw [List.append_assoc, List.append_assoc]
    refine List.Perm.append_left _ ?_
    simpa using (List.perm_middle (l₁ := S.dropWhile fun t => decide (t < x)) (a := x) (l₂ := xs)).symm

theorem take_all_lt {S : List Int} {x : Int} (h : ∀ t ∈ S, t < x) : S.takeWhile (fun t => decide (t < x)) = S ∧ S.dropWhile (fun t => decide (t < x)) = [] := by
  induction S with
  | nil => simp
  | cons a S ih =>
    obtain ⟨h1, h2⟩ := ih (fun t ht => h t (by simp [ht]))
    have ha := h a (by simp)
    rw [List.takeWhile_cons, List.dropWhile_cons, h1, h2]
    simp [ha]
theorem osL_sorted {S B : List Int} (hS : ∀ s ∈ S, ∀ b ∈ B, s < b) (hB : B.Pairwise (· < ·)) : osL S B = S ++ B := by
  induction B generalizing S with
  | nil => simp [osL]
  | cons b B ih =>
    obtain ⟨h1, h2⟩ := take_all_lt (S := S) (x := b) (fun t ht => hS t ht b (by simp))
    obtain ⟨h3, h4⟩ := List.pairwise_cons.1 hB
    simp only [osL, h1, h2]
    rw [ih (fun s hs c hc => by simp only [List.mem_singleton] at hs; subst hs; exact h3 c hc) h4]
    simp
theorem osL_append {S A B : List Int} (hS : ∀ s ∈ S, ∀ b ∈ B, s < b) (hA : ∀ s ∈ A, ∀ b ∈ B, s < b) (hB : B.Pairwise (· < ·)) : osL S (A ++ B) = osL S A ++ B := by
  induction A generalizing S with
  | nil => simp only [List.nil_append, osL]; exact osL_sorted hS hB
  | cons x A ih =>
    simp only [List.cons_append, osL]
    rw [ih (fun s hs b hb => ?_) (fun s hs => hA s (by simp [hs])), List.append_assoc]
    rcases List.mem_cons.1 hs with e | hs
    · subst e; exact hA s (by simp) b hb
    · exact hS s ((List.dropWhile_sublist _).subset hs) b hb

theorem in_take {S : List Int} {x a : Int} (h : a ∈ S.takeWhile fun t => decide (t < x)) : a < x := by
  induction S with
  | nil => simp at h
  | cons b S ih =>
    rw [List.takeWhile_cons] at h
    by_cases hb : b < x
    · simp only [hb, decide_true, if_true, List.mem_cons] at h
      rcases h with e | h
      · subst e; exact hb
      · exact ih h
    · simp [hb] at h
theorem in_drop {S : List Int} {x a : Int} (hS : S.Pairwise (· ≤ ·)) (h : a ∈ S.dropWhile fun t => decide (t < x)) : x ≤ a := by
  induction S with
  | nil => simp at h
  | cons b S ih =>
    obtain ⟨h1, h2⟩ := List.pairwise_cons.1 hS
    rw [List.dropWhile_cons] at h
    by_cases hb : b < x
    · simp only [hb, decide_true, if_true] at h
      exact ih h2 h
    · simp only [hb, decide_false, Bool.false_eq_true, if_false, List.mem_cons] at h
      rcases h with e | h
      · subst e; omega
      · have := h1 a h; omega
theorem in_either {S : List Int} {x a : Int} (h : a ∈ S) : a ∈ S.takeWhile (fun t => decide (t < x)) ∨ a ∈ S.dropWhile (fun t => decide (t < x)) := by
  have e : S.takeWhile (fun t => decide (t < x)) ++ S.dropWhile (fun t => decide (t < x)) = S := List.takeWhile_append_dropWhile
  rw [← e] at h
  exact List.mem_append.1 h
theorem drop_sorted {S : List Int} {x : Int} (hS : S.Pairwise (· ≤ ·)) : (x :: S.dropWhile fun t => decide (t < x)).Pairwise (· ≤ ·) :=
  List.pairwise_cons.2 ⟨fun _ hb => in_drop hS hb, hS.sublist (List.dropWhile_sublist _)⟩

/-- The greatest one comes last. -/
theorem osL_last {S A : List Int} {m : Int} (hS : S.Pairwise (· ≤ ·)) (hm : m ∈ S ∨ m ∈ A) (h1 : ∀ s ∈ S, s ≤ m) (h2 : ∀ s ∈ A, s ≤ m) : ∃ Y, osL S A = Y ++ [m] := by
  induction A generalizing S with
  | nil =>
    rcases hm with hm | hm
    · have hne : S ≠ [] := fun e => by subst e; simp at hm
      refine ⟨S.dropLast, ?_⟩
      have e := List.dropLast_concat_getLast hne
      have hle := h1 _ (List.getLast_mem hne)
      have : S.getLast hne = m := by
        obtain ⟨i, hi, rfl⟩ := List.getElem_of_mem hm
        rw [List.getLast_eq_getElem] at hle ⊢
        by_cases e : i = S.length - 1
        · subst e; rfl
        · have := List.pairwise_iff_getElem.1 hS i (S.length - 1) hi (by omega) (by omega)
          omega
      rw [this] at e
      exact e.symm
    · simp at hm
  | cons x A ih =>
    obtain ⟨Y, hY⟩ := ih (S := x :: S.dropWhile fun t => decide (t < x)) (drop_sorted hS) (by
      rcases hm with hm | hm
      · rcases in_either (x := x) hm with h | h
        · have := in_take h; have := h2 x (by simp); omega
        · exact .inl (by simp [h])
      · rcases List.mem_cons.1 hm with e | hm
        · subst e; exact .inl (by simp)
        · exact .inr hm) (fun s hs => by
      rcases List.mem_cons.1 hs with e | hs
      · subst e; exact h2 s (by simp)
      · exact h1 s ((List.dropWhile_sublist _).subset hs)) (fun s hs => h2 s (by simp [hs]))
    exact ⟨S.takeWhile (fun t => decide (t < x)) ++ Y, by simp only [osL]; rw [hY, List.append_assoc]⟩

/-! No bad three. -/
def noBad2 (S : List Int) : List Int → Prop
  | [] => True
  | x :: xs => (∀ a ∈ S, a < x → ∀ b ∈ xs, ¬ b < a) ∧ noBad2 (x :: S.dropWhile fun t => decide (t < x)) xs
def noBad (S : List Int) : List Int → Prop
  | [] => True
  | x :: xs => (∀ a ∈ S, a < x → ∀ b ∈ xs, ¬ b < a) ∧ noBad (x :: S) xs

theorem osL_noBad2 {S xs : List Int} (hS : S.Pairwise (· ≤ ·)) : (osL S xs).Pairwise (· ≤ ·) ↔ noBad2 S xs := by
  induction xs generalizing S with
  | nil => simp only [osL, noBad2]; exact ⟨fun _ => trivial, fun _ => hS⟩
  | cons x xs ih =>
    simp only [osL, noBad2]
    rw [List.pairwise_append, ih (drop_sorted hS)]
    have hp := osL_perm (x :: S.dropWhile fun t => decide (t < x)) xs
    constructor
    · rintro ⟨_, h2, h3⟩
      refine ⟨fun a ha hax b hb => ?_, h2⟩
      have hat : a ∈ S.takeWhile fun t => decide (t < x) := by
        rcases in_either (x := x) ha with h | h
        · exact h
        · have := in_drop hS h; omega
      have := h3 a hat b (hp.mem_iff.2 (by simp [hb]))
      omega
    · rintro ⟨h1, h2⟩
      refine ⟨hS.sublist (List.takeWhile_sublist _), h2, fun a ha b hb => ?_⟩
      have hax := in_take ha
      have haS := (List.takeWhile_sublist _).subset ha
      rcases List.mem_append.1 (hp.mem_iff.1 hb) with h | h
      · rcases List.mem_cons.1 h with e | h
        · subst e; omega
        · have := in_drop hS h; omega
      · have := h1 a haS hax b h; omega
theorem noBad_iff {S S' xs : List Int} (h1 : ∀ s ∈ S, s ∈ S') (h2 : ∀ p ∈ S', p ∉ S → ∀ b ∈ xs, ¬ b < p) : noBad2 S xs ↔ noBad S' xs := by
  induction xs generalizing S S' with
  | nil => simp [noBad2, noBad]
  | cons x xs ih =>
    simp only [noBad2, noBad]
    have e1 : (∀ a ∈ S, a < x → ∀ b ∈ xs, ¬ b < a) ↔ (∀ a ∈ S', a < x → ∀ b ∈ xs, ¬ b < a) := by
      constructor
      · intro h a ha hax b hb
        by_cases haS : a ∈ S
        · exact h a haS hax b hb
        · exact h2 a ha haS b (by simp [hb])
      · intro h a ha; exact h a (h1 a ha)
    rw [e1]
    refine and_congr_right fun hc => ih (fun s hs => ?_) (fun p hp hpn b hb => ?_)
    · rcases List.mem_cons.1 hs with e | hs
      · simp [e]
      · simp [h1 s ((List.dropWhile_sublist _).subset hs)]
    · rcases List.mem_cons.1 hp with e | hp
      · subst e; simp at hpn
      · by_cases hpS : p ∈ S
        · rcases in_either (x := x) hpS with h | h
          · exact hc p hp (in_take h) b hb
          · exact absurd (by simp [h]) hpn
        · exact h2 p hp hpS b (by simp [hb])
/-- Places of a bad three. -/
def BadAt (zs : List Int) (i j k : Nat) : Prop := zs.getD k 0 < zs.getD i 0 ∧ zs.getD i 0 < zs.getD j 0
instance (zs : List Int) (i j k : Nat) : Decidable (BadAt zs i j k) := inferInstanceAs (Decidable (_ ∧ _))
theorem noBad_at {S xs : List Int} : noBad S xs ↔ (∀ a ∈ S, ∀ j k : Nat, j < k → k < xs.length → ¬ (a < xs.getD j 0 ∧ xs.getD k 0 < a)) ∧ (∀ i j k : Nat, i < j → j < k → k < xs.length → ¬ BadAt xs i j k) := by
  induction xs generalizing S with
  | nil => simp [noBad]
  | cons x xs ih =>
    simp only [noBad, ih]
    constructor
    · rintro ⟨h1, h2, h3⟩
      refine ⟨fun a ha j k hjk hk => ?_, fun i j k hij hjk hk => ?_⟩
      · cases k with
        | zero => omega
        | succ k =>
          have hk' : k < xs.length := by simpa using hk
          cases j with
          | zero =>
            simp only [List.getD_cons_zero, List.getD_cons_succ]
            rintro ⟨g1, g2⟩
            refine h1 a ha g1 _ (List.getElem_mem hk') ?_
            rw [getD_get hk'] at g2; exact g2
          | succ j =>
            simp only [List.getD_cons_succ]
            exact h2 a (by simp [ha]) j k (by omega) hk'
      · cases k with
        | zero => omega
        | succ k =>
          have hk' : k < xs.length := by simpa using hk
          cases j with
          | zero => omega
          | succ j =>
            cases i with
            | zero =>
              unfold BadAt
              simp only [List.getD_cons_zero, List.getD_cons_succ]
              rintro ⟨g1, g2⟩
              exact h2 x (by simp) j k (by omega) hk' ⟨g2, g1⟩
            | succ i =>
              have := h3 i j k (by omega) (by omega) hk'
              unfold BadAt at this ⊢
              simpa only [List.getD_cons_succ] using this
    · rintro ⟨h1, h2⟩
      refine ⟨fun a ha hax b hb hba => ?_, fun a ha j k hjk hk => ?_, fun i j k hij hjk hk => ?_⟩
      · obtain ⟨k, hk, rfl⟩ := List.getElem_of_mem hb
        refine h1 a ha 0 (k + 1) (by omega) (by simp; omega) ?_
        simp only [List.getD_cons_zero, List.getD_cons_succ]
        rw [getD_get hk]; exact ⟨hax, hba⟩
      · rcases List.mem_cons.1 ha with e | ha
        · subst e
          have := h2 0 (j + 1) (k + 1) (by omega) (by omega) (by simp; omega)
          unfold BadAt at this
          simp only [List.getD_cons_zero, List.getD_cons_succ] at this
          exact fun g => this ⟨g.2, g.1⟩
        · have := h1 a ha (j + 1) (k + 1) (by omega) (by simp; omega)
          simpa only [List.getD_cons_succ] using this
      · have := h2 (i + 1) (j + 1) (k + 1) (by omega) (by omega) (by simp; omega)
        unfold BadAt at this ⊢
        simpa only [List.getD_cons_succ] using this

/-! Rows behind one stack. -/
theorem getD_right {A B : List Int} {k : Nat} (h : A.length ≤ k) : (A ++ B).getD k 0 = B.getD (k - A.length) 0 := by
  simp [List.getD, List.getElem?_append_right h]
theorem rowB_from {m : Nat} {zs : List Int} (hl : zs.length ≤ m) (h1 : ∀ z ∈ zs, 0 ≤ z ∧ z < zs.length) (h2 : zs.Nodup) : rowB m zs = true := by
  refine rowB_yes hl (List.all_eq_true.2 fun k hk => ?_)
  have hk' := List.mem_range.1 hk
  refine okAt_yes hk' (h1 _ (List.getElem_mem hk')) fun hm => ?_
  obtain ⟨i, hi, he⟩ := List.getElem_of_mem hm
  simp only [List.length_take] at hi
  rw [List.getElem_take] at he
  exact List.pairwise_iff_getElem.1 h2 i k (by omega) hk' (by omega) he
theorem rowB_distinct {m : Nat} {zs : List Int} (h : rowB m zs = true) : zs.Nodup := by
  rw [List.nodup_iff_pairwise_ne, List.pairwise_iff_getElem]
  intro i j hi hj hij he
  have := rowB_nodup h i j hi hj he
  omega
theorem rowB_perm {m : Nat} {zs ys : List Int} (h : rowB m zs = true) (hp : ys.Perm zs) : rowB m ys = true := by
  have hl := hp.length_eq
  refine rowB_from (by rw [hl]; exact rowB_len h) (fun z hz => ?_) (hp.nodup_iff.2 (rowB_distinct h))
  obtain ⟨i, hi, rfl⟩ := List.getElem_of_mem (hp.mem_iff.1 hz)
  rw [hl]
  exact (rowB_at h hi).1
def osR (zs : List Int) : List Int := osL [] zs
theorem osR_perm (zs : List Int) : (osR zs).Perm zs := by have := osL_perm [] zs; rwa [List.nil_append] at this
theorem osR_len (zs : List Int) : (osR zs).length = zs.length := (osR_perm zs).length_eq
theorem osR_row {m : Nat} {zs : List Int} (h : rowB m zs = true) : rowB m (osR zs) = true := rowB_perm h (osR_perm zs)
/-- A row that rises is in order. -/
theorem row_sorted {m : Nat} {zs : List Int} (h : rowB m zs = true) (hs : zs.Pairwise (· ≤ ·)) : zs = tab zs.length (fun j => (j : Int)) := by
  refine lis_all h ?_
  have hc : Chain zs (List.range zs.length) := by
    refine ⟨List.pairwise_iff_getElem.2 fun i j hi hj hij => ?_, fun a ha => List.mem_range.1 ha⟩
    simp only [List.length_range] at hi hj
    simp only [List.getElem_range]
    have h1 := List.pairwise_iff_getElem.1 hs i j hi hj hij
    have h2 := getD_ne h hi hj (by omega)
    rw [getD_get hi, getD_get hj] at h2 ⊢
    omega
  have := chain_lis hc
  have h2 := lisTo_le zs zs.length
  simp only [List.length_range] at this
  unfold lis at *
  omega
theorem tab_sorted (n : Nat) : (tab n fun j => (j : Int)).Pairwise (· < ·) := by
  unfold tab
  rw [List.pairwise_map]
  exact List.pairwise_lt_range.imp fun h => by omega
theorem osR_order {m : Nat} {zs : List Int} (h : rowB m zs = true) : osR zs = tab zs.length (fun j => (j : Int)) ↔ ∀ i j k : Nat, i < j → j < k → k < zs.length → ¬ BadAt zs i j k := by
  have h1 : (osR zs).Pairwise (· ≤ ·) ↔ noBad2 [] zs := osL_noBad2 (by simp)
  rw [noBad_iff (S' := []) (by simp) (by simp), noBad_at] at h1
  simp only [List.not_mem_nil, false_implies, implies_true, true_and] at h1
  rw [← h1]
  constructor
  · intro e; rw [e]; exact (tab_sorted _).imp fun h => by omega
  · intro e
    have := row_sorted (osR_row h) e
    rwa [osR_len] at this
theorem osR_end {zs : List Int} {m : Nat} (h : rowB m zs = true) (h0 : 0 < zs.length) : (osR zs).getD (zs.length - 1) 0 = (zs.length : Int) - 1 := by
  obtain ⟨Y, hY⟩ := osL_last (S := []) (A := zs) (m := (zs.length : Int) - 1) (by simp) (.inr (by
    have := row_mem h (show zs.length - 1 < zs.length by omega)
    rwa [show ((zs.length - 1 : Nat) : Int) = (zs.length : Int) - 1 by omega] at this)) (by simp) (fun s hs => by
    obtain ⟨i, hi, rfl⟩ := List.getElem_of_mem hs
    have := (rowB_at h hi).1; omega)
  have hl := osR_len zs
  unfold osR at hl ⊢
  rw [hY] at hl ⊢
  simp only [List.length_append, List.length_singleton] at hl
  rw [show zs.length - 1 = Y.length by omega, getD_right (by omega)]
  simp
theorem osR_tab (n : Nat) : osR (tab n fun j => (j : Int)) = tab n fun j => (j : Int) := by
  unfold osR; rw [osL_sorted (by simp) (tab_sorted n)]; rfl
theorem osL_falls {S D : List Int} (h : ∀ d ∈ D, ∀ s ∈ S, d < s) (hD : D.Pairwise (fun a b => b < a)) : osL S D = D.reverse ++ S := by
  induction D generalizing S with
  | nil => simp [osL]
  | cons x D ih =>
    obtain ⟨h1, h2⟩ := List.pairwise_cons.1 hD
    have e : ∀ S : List Int, (∀ s ∈ S, x < s) → S.takeWhile (fun t => decide (t < x)) = [] ∧ S.dropWhile (fun t => decide (t < x)) = S := by
      intro S hS
      cases S with
      | nil => simp
      | cons b S =>
        have := hS b (by simp)
        rw [List.takeWhile_cons, List.dropWhile_cons]
        have : ¬ b < x := by omega
        simp [this]
    obtain ⟨e1, e2⟩ := e S (fun s hs => h x (by simp) s hs)
    simp only [osL, e1, e2, List.nil_append]
    rw [ih (fun d hd s hs => ?_) h2]
    · simp
    · rcases List.mem_cons.1 hs with e | hs
      · subst e; exact h1 d hd
      · exact h d (by simp [hd]) s hs
theorem osR_tab_rev (n : Nat) : osR (tab n fun j => (j : Int)).reverse = tab n fun j => (j : Int) := by
  unfold osR
  rw [osL_falls (by simp) (List.pairwise_reverse.2 (tab_sorted n))]
  simp

/-! Again and again. -/
def Ended (zs : List Int) (k : Nat) : Prop := ∀ j : Nat, zs.length - k ≤ j → j < zs.length → zs.getD j 0 = (j : Int)
theorem ended_step {m : Nat} {zs : List Int} {k : Nat} (hv : rowB m zs = true) (h : Ended zs k) (hk : k < zs.length) : Ended (osR zs) (k + 1) := by
  have hsplit := List.take_append_drop (zs.length - k) zs
  have hB : ∀ b ∈ zs.drop (zs.length - k), ((zs.length - k : Nat) : Int) ≤ b := fun b hb => by
    obtain ⟨i, hi, rfl⟩ := List.getElem_of_mem hb
    simp only [List.length_drop] at hi
    rw [List.getElem_drop, ← getD_get, h _ (by omega) (by omega)]
    omega
  have hA : ∀ a ∈ zs.take (zs.length - k), a < ((zs.length - k : Nat) : Int) := fun a ha => by
    obtain ⟨i, hi, rfl⟩ := List.getElem_of_mem ha
    simp only [List.length_take] at hi
    rw [List.getElem_take]
    have h1 := (rowB_at hv (show i < zs.length by omega)).1
    refine Decidable.by_contra fun hc => ?_
    have h2 := h (zs[i]'(by omega)).toNat (by omega) (by omega)
    rw [getD_get (by omega)] at h2
    have := rowB_nodup hv _ _ (show zs[i].toNat < zs.length by omega) (show i < zs.length by omega) (by omega)
    omega
  have hBs : (zs.drop (zs.length - k)).Pairwise (· < ·) := by
    rw [List.pairwise_iff_getElem]
    intro i j hi hj hij
    simp only [List.length_drop] at hi hj
    rw [List.getElem_drop, List.getElem_drop, ← getD_get, ← getD_get, h _ (by omega) (by omega), h _ (by omega) (by omega)]
    omega
  have happ : osR zs = osL [] (zs.take (zs.length - k)) ++ zs.drop (zs.length - k) := by
    unfold osR
    conv => lhs; rw [← hsplit]
    exact osL_append (by simp) (fun s hs b hb => by have := hA s hs; have := hB b hb; omega) hBs
  obtain ⟨Y, hY⟩ := osL_last (S := []) (A := zs.take (zs.length - k)) (m := ((zs.length - k - 1 : Nat) : Int)) (by simp) (.inr (by
    have hm := row_mem hv (show zs.length - k - 1 < zs.length by omega)
    rcases List.mem_append.1 (show ((zs.length - k - 1 : Nat) : Int) ∈ zs.take (zs.length - k) ++ zs.drop (zs.length - k) by rw [hsplit]; exact hm) with hm | hm
    · exact hm
    · have := hB _ hm; omega)) (by simp) (fun s hs => by have := hA s hs; omega)
  have hYl : Y.length = zs.length - k - 1 := by
    have := (osL_perm [] (zs.take (zs.length - k))).length_eq
    rw [hY] at this
    simp at this
    omega
  intro j h1 h2
  rw [osR_len] at h1 h2
  rw [happ, hY, List.append_assoc]
  by_cases e : j = zs.length - k - 1
  · rw [getD_right (by omega), e, hYl]
    simp
  · rw [getD_right (by omega), getD_right (by simp; omega)]
    have := h j (by omega) h2
    rw [getD_get h2] at this
    rw [getD_get (by simp; omega), List.getElem_drop]
    rw [← this]
    congr 1
    simp only [List.length_singleton]
    omega
theorem ended_all {m : Nat} {zs : List Int} {k : Nat} (hv : rowB m zs = true) (h : Ended zs k) (hk : zs.length ≤ k + 1) : zs = tab zs.length (fun j => (j : Int)) := by
  refine row_sorted hv (List.pairwise_iff_getElem.2 fun i j hi hj hij => ?_)
  have hj1 := h j (by omega) hj
  rw [getD_get hj] at hj1
  by_cases hi0 : i = 0
  · subst hi0
    have h1 := (rowB_at hv hi).1
    refine Decidable.by_contra fun hc => ?_
    have h2 := h (zs[0]).toNat (by omega) (by omega)
    rw [getD_get (by omega)] at h2
    have := rowB_nodup hv _ _ (show zs[0].toNat < zs.length by omega) hi (by omega)
    omega
  · have hi1 := h i (by omega) hi
    rw [getD_get hi] at hi1
    omega
def osN (zs : List Int) : Nat → List Int
  | 0 => zs
  | k + 1 => osR (osN zs k)
theorem osN_len (zs : List Int) (k : Nat) : (osN zs k).length = zs.length := by
  induction k with
  | zero => rfl
  | succ k ih => simp only [osN]; rw [osR_len, ih]
theorem osN_row {m : Nat} {zs : List Int} (h : rowB m zs = true) (k : Nat) : rowB m (osN zs k) = true := by
  induction k with
  | zero => exact h
  | succ k ih => exact osR_row ih
theorem osN_ended {m : Nat} {zs : List Int} (h : rowB m zs = true) {k : Nat} (hk : k ≤ zs.length) : Ended (osN zs k) k := by
  induction k with
  | zero => intro j h1 h2; simp only [osN] at h1 h2; omega
  | succ k ih => exact ended_step (osN_row h k) (ih (by omega)) (by rw [osN_len]; omega)
theorem osN_all {m : Nat} {zs : List Int} (h : rowB m zs = true) {k : Nat} (hk : k ≤ zs.length) (h2 : zs.length ≤ k + 1) : osN zs k = tab zs.length (fun j => (j : Int)) := by
  have := ended_all (osN_row h k) (osN_ended h hk) (by rw [osN_len]; exact h2)
  rwa [osN_len] at this
end Go.Proofs.Ytdgdlmpmoafkgaa
