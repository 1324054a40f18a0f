/- Stacks, plain. No condition. -/
import Derived.Test.YtempfagjbpnlcaaI0
import Derived.Test.YtempfagjbpnlcaaA1
namespace Go.Proofs.Ytempfagjbpnlcaa
open Go.RowKit

theorem getD_ne {m : Nat} {zs : List Int} (hv : rowB m zs = true) {i j : Nat} (hi : i < zs.length) (hj : j < zs.length) (h : i ≠ j) : zs.getD i 0 ≠ zs.getD j 0 := fun e => by
  rw [getD_get hi, getD_get hj] at e
  exact h (rowB_nodup hv i j hi hj e)

/-- What lies on stack s, of the first i, where place k goes to stack st k. -/
def lvl (zs : List Int) (st : Nat → Nat) (s : Nat) : Nat → List Int
  | 0 => []
  | i + 1 => if st i = s then lvl zs st s i ++ [zs.getD i 0] else lvl zs st s i
theorem lvl_len (zs : List Int) (st : Nat → Nat) (s i : Nat) : (lvl zs st s i).length ≤ i := by
  induction i with
  | zero => simp [lvl]
  | succ i ih =>
    simp only [lvl]
    split
    · simp; omega
    · omega
theorem lvl_no {zs : List Int} {st : Nat → Nat} {s i : Nat} (h : lvl zs st s i = []) : ∀ k, k < i → st k ≠ s := by
  induction i with
  | zero => intro k hk; omega
  | succ i ih =>
    simp only [lvl] at h
    intro k hk
    by_cases hs : st i = s
    · rw [if_pos hs] at h; simp at h
    · rw [if_neg hs] at h
      by_cases hki : k = i
      · subst hki; exact hs
      · exact ih h k (by omega)
theorem lvl_last {zs : List Int} {st : Nat → Nat} {s i : Nat} (h : lvl zs st s i ≠ []) : ∃ k, k < i ∧ st k = s ∧ (lvl zs st s i).getD ((lvl zs st s i).length - 1) 0 = zs.getD k 0 ∧ ∀ k', k < k' → k' < i → st k' ≠ s := by
  induction i with
  | zero => simp [lvl] at h
  | succ i ih =>
    simp only [lvl] at h ⊢
    by_cases hs : st i = s
    · rw [if_pos hs]
      exact ⟨i, by omega, hs, by simp, fun k' h1 h2 => by omega⟩
    · rw [if_neg hs] at h ⊢
      obtain ⟨k, h1, h2, h3, h4⟩ := ih h
      refine ⟨k, by omega, h2, h3, fun k' g1 g2 => ?_⟩
      by_cases e : k' = i
      · subst e; exact hs
      · exact h4 k' g1 (by omega)

/-- A stack bears a thing. -/
def bearsB (l : List Int) (x : Int) : Bool := decide (l.length = 0) || decide (x < l.getD (l.length - 1) 0)

/-! Whether parcels can be brought. -/
def okU (zs : List Int) (st : Nat → Nat) (i : Nat) : Bool := (List.range i).all fun k => !(decide (st k = st i) && decide (zs.getD k 0 < zs.getD i 0))
theorem okU_iff {zs : List Int} {st : Nat → Nat} {i : Nat} : okU zs st i = true ↔ ∀ k, k < i → st k = st i → ¬ zs.getD k 0 < zs.getD i 0 := by
  simp only [okU, List.all_eq_true, List.mem_range]
  constructor
  · intro h k hk he
    have := h k hk
    simp only [he, decide_true, Bool.true_and, Bool.not_eq_true', decide_eq_false_iff_not] at this
    exact this
  · intro h k hk
    by_cases he : st k = st i
    · simp only [he, decide_true, Bool.true_and, Bool.not_eq_true', decide_eq_false_iff_not]; exact h k hk he
    · simp only [he, decide_false, Bool.false_and, Bool.not_false]
theorem bears_ok {m : Nat} {zs : List Int} (hv : rowB m zs = true) {st : Nat → Nat} {i : Nat} (hi : i < zs.length) (h : ∀ j, j < i → okU zs st j = true) : bearsB (lvl zs st (st i) i) (zs.getD i 0) = okU zs st i := by
  by_cases he : lvl zs st (st i) i = []
  · rw [he]
    have h1 : okU zs st i = true := okU_iff.2 fun k hk e => absurd e (lvl_no he k hk)
    rw [h1]; rfl
  · obtain ⟨k, h1, h2, h3, h4⟩ := lvl_last he
    have hl : ¬ (lvl zs st (st i) i).length = 0 := fun e => he (List.eq_nil_of_length_eq_zero e)
    simp only [bearsB, decide_eq_false hl, Bool.false_or, h3]
    have hne := getD_ne hv (show k < zs.length by omega) hi (by omega)
    by_cases hlt : zs.getD i 0 < zs.getD k 0
    · rw [decide_eq_true hlt]
      refine (okU_iff.2 fun k' hk' e => ?_).symm
      by_cases hkk : k' < k
      · have := okU_iff.1 (h k h1) k' hkk (by omega)
        omega
      · by_cases e2 : k' = k
        · subst e2; omega
        · exact absurd e (h4 k' (by omega) hk')
    · rw [decide_eq_false hlt]
      have hno : okU zs st i ≠ true := fun e => by have := okU_iff.1 e k h1 h2; omega
      simpa using hno.symm

def stN (ss : List Int) (k : Nat) : Nat := (ss.getD k 0).toNat
/-- CanUnload. -/
def unlB (zs ss : List Int) : Bool := rowB 9 zs && decide (ss.length = zs.length) && ss.all (fun s => inR s 0 8) && (List.range zs.length).all (okU zs (stN ss))

/-! The stacks of parcels. -/
def stk (zs : List Int) (k : Nat) : Nat := up zs k - 1
def stacksL (zs : List Int) : List Int := tab zs.length fun i => (stk zs i : Int)

theorem up_down {zs : List Int} (i l : Nat) (h1 : 1 ≤ l) (h2 : l < up zs i) : ∃ k, k < i ∧ zs.getD k 0 < zs.getD i 0 ∧ up zs k = l := by
  induction i using Nat.strongRecOn with
  | _ i ih =>
    rcases up_from zs i with h | ⟨k, g1, g2, g3⟩
    · omega
    · by_cases e : up zs k = l
      · exact ⟨k, g1, g2, e⟩
      · obtain ⟨k', p1, p2, p3⟩ := ih k g1 (by omega)
        exact ⟨k', by omega, by omega, p3⟩
theorem stk_lt {zs : List Int} {i : Nat} : stk zs i ≤ i := by have := up_le zs i; unfold stk; omega
/-- The greedy choice: of the stacks those below bear nothing, and it and those behind it do. -/
theorem bears_stk {m : Nat} {zs : List Int} (hv : rowB m zs = true) {i s : Nat} (hi : i < zs.length) : bearsB (lvl zs (stk zs) s i) (zs.getD i 0) = decide (stk zs i ≤ s) := by
  by_cases he : lvl zs (stk zs) s i = []
  · rw [he]
    have hs : stk zs i ≤ s := by
      refine Decidable.by_contra fun hc => ?_
      unfold stk at hc
      obtain ⟨k, h1, _, h3⟩ := up_down (zs := zs) i (s + 1) (by omega) (by omega)
      exact lvl_no he k h1 (by unfold stk; omega)
    rw [decide_eq_true hs]; rfl
  · obtain ⟨k, h1, h2, h3, h4⟩ := lvl_last he
    have hl : ¬ (lvl zs (stk zs) s i).length = 0 := fun e => he (List.eq_nil_of_length_eq_zero e)
    simp only [bearsB, decide_eq_false hl, Bool.false_or, h3]
    have hne := getD_ne hv (show k < zs.length by omega) hi (by omega)
    have hp := up_pos zs k
    have hpi := up_pos zs i
    congr 1
    refine propext ⟨fun hlt => ?_, fun hs => ?_⟩
    · refine Decidable.by_contra fun hc => ?_
      unfold stk at hc h2
      obtain ⟨k', g1, g2, g3⟩ := up_down (zs := zs) i (s + 1) (by omega) (by omega)
      by_cases hkk : k' < k
      · have := getD_ne hv (show k' < zs.length by omega) (show k < zs.length by omega) (by omega)
        by_cases hb : zs.getD k' 0 < zs.getD k 0
        · have := up_gt hkk hb; omega
        · omega
      · by_cases e2 : k' = k
        · subst e2; omega
        · exact h4 k' (by omega) g1 (by unfold stk; omega)
    · refine Decidable.by_contra fun hc => ?_
      have := up_gt h1 (show zs.getD k 0 < zs.getD i 0 by omega)
      unfold stk at hs h2
      omega
theorem stk_le_lis {zs : List Int} {i : Nat} (h : i < zs.length) : stk zs i + 1 ≤ lis zs := by
  have := lisTo_ge zs h; have := up_pos zs i; unfold stk lis; omega
theorem okU_stk (zs : List Int) (i : Nat) : okU zs (stk zs) i = true := okU_iff.2 fun k hk e h => by
  have := up_gt hk h
  have := up_pos zs k
  unfold stk at e; omega

/-- The tops of the first m stacks. -/
def topsL (zs : List Int) (i : Nat) : List Int := tab (lisTo zs i) fun s => (lvl zs (stk zs) s i).getD ((lvl zs (stk zs) s i).length - 1) 0
theorem lvl_some {zs : List Int} {i s : Nat} (h : s < lisTo zs i) : lvl zs (stk zs) s i ≠ [] := by
  intro he
  obtain ⟨j, h1, h2⟩ := lisTo_at zs (m := i) (by rcases Nat.eq_zero_or_pos i with e | e; · subst e; simp [lisTo] at h
                                                 · exact e)
  by_cases e : up zs j = s + 1
  · exact lvl_no he j h1 (by unfold stk; omega)
  · obtain ⟨k, g1, _, g3⟩ := up_down (zs := zs) j (s + 1) (by omega) (by omega)
    exact lvl_no he k (by omega) (by unfold stk; omega)
theorem lvl_none {zs : List Int} {i s : Nat} (h : ¬ s < lisTo zs i) : lvl zs (stk zs) s i = [] := by
  refine Decidable.by_contra fun he => ?_
  obtain ⟨k, h1, h2, _⟩ := lvl_last he
  have := lisTo_ge zs h1
  have := up_pos zs k
  unfold stk at h2; omega
theorem tops_gt {m : Nat} {zs : List Int} (hv : rowB m zs = true) {i s : Nat} (hi : i < zs.length) (hs : s < lisTo zs i) : zs.getD i 0 < (topsL zs i).getD s 0 ↔ stk zs i ≤ s := by
  have h1 := bears_stk hv (s := s) hi
  have h2 := lvl_some hs
  have hl : ¬ (lvl zs (stk zs) s i).length = 0 := fun e => h2 (List.eq_nil_of_length_eq_zero e)
  simp only [bearsB, decide_eq_false hl, Bool.false_or] at h1
  unfold topsL
  rw [getD_tab _ hs]
  exact decide_eq_decide.1 h1
theorem tops_up {m : Nat} {zs : List Int} (hv : rowB m zs = true) {i s t : Nat} (hi : i ≤ zs.length) (hst : s < t) (ht : t < lisTo zs i) : (topsL zs i).getD s 0 < (topsL zs i).getD t 0 := by
  unfold topsL
  rw [getD_tab _ (by omega), getD_tab _ ht]
  obtain ⟨k, h1, h2, h3, h4⟩ := lvl_last (lvl_some (show s < lisTo zs i by omega))
  obtain ⟨j, g1, g2, g3, g4⟩ := lvl_last (lvl_some ht)
  rw [h3, g3]
  have hpk := up_pos zs k
  have hpj := up_pos zs j
  unfold stk at h2 g2
  obtain ⟨k', p1, p2, p3⟩ := up_down (zs := zs) j (s + 1) (by omega) (by omega)
  by_cases hkk : k' < k
  · have := getD_ne hv (show k' < zs.length by omega) (show k < zs.length by omega) (by omega)
    by_cases hb : zs.getD k' 0 < zs.getD k 0
    · have := up_gt hkk hb; omega
    · omega
  · by_cases e2 : k' = k
    · subst e2; exact p2
    · exact absurd (show stk zs k' = s by unfold stk; omega) (h4 k' (by omega) (by omega))
theorem tops_len (zs : List Int) (i : Nat) : (topsL zs i).length = lisTo zs i := by simp [topsL, tab_length]
theorem stk_le_len (zs : List Int) (i : Nat) : stk zs i ≤ lisTo zs i := by
  rcases up_from zs i with h | ⟨k, h1, _, h3⟩
  · unfold stk; omega
  · have := lisTo_ge zs h1; unfold stk; omega
theorem tops_old {zs : List Int} {i : Nat} (h : stk zs i < lisTo zs i) : topsL zs (i + 1) = (topsL zs i).set (stk zs i) (zs.getD i 0) := by
  have hp := up_pos zs i
  unfold topsL
  rw [show lisTo zs (i + 1) = lisTo zs i by simp only [lisTo]; unfold stk at h; omega]
  refine (tab_set' fun s hs => ?_).symm
  by_cases e : s = stk zs i
  · subst e; simp [lvl]
  · simp only [lvl]; rw [if_neg (fun h => e h.symm), if_neg e]
theorem tops_new {zs : List Int} {i : Nat} (h : stk zs i = lisTo zs i) : topsL zs (i + 1) = topsL zs i ++ [zs.getD i 0] := by
  have hp := up_pos zs i
  unfold topsL
  rw [show lisTo zs (i + 1) = lisTo zs i + 1 by simp only [lisTo]; unfold stk at h; omega]
  conv => lhs; unfold tab
  rw [List.range_succ, List.map_append]
  congr 1
  · unfold tab
    refine List.map_congr_left fun s hs => ?_
    rw [List.mem_range] at hs
    simp only [lvl]; rw [if_neg (by omega)]
  · simp [lvl, h]

/-! How many different numbers. -/
def firsts : List Int → List Int
  | [] => []
  | x :: xs => x :: (firsts xs).filter (fun y => decide (y ≠ x))
theorem firsts_mem {l : List Int} {x : Int} : x ∈ firsts l ↔ x ∈ l := by
  induction l with
  | nil => simp [firsts]
  | cons a l ih =>
    simp only [firsts, List.mem_cons, List.mem_filter, ih, decide_eq_true_eq]
    constructor
    · rintro (h | ⟨h, _⟩)
      · exact .inl h
      · exact .inr h
    · rintro (h | h)
      · exact .inl h
      · by_cases e : x = a
        · exact .inl e
        · exact .inr ⟨h, e⟩
theorem firsts_nodup (l : List Int) : (firsts l).Nodup := by
  induction l with
  | nil => simp [firsts]
  | cons a l ih =>
    simp only [firsts, List.nodup_cons, List.mem_filter]
    exact ⟨fun h => by simpa using h.2, ih.filter _⟩
theorem firsts_snoc (l : List Int) (x : Int) : (firsts (l ++ [x])).length = (firsts l).length + if x ∈ l then 0 else 1 := by
  have perm : ∀ a b : List Int, a.Nodup → b.Nodup → (∀ y, y ∈ a ↔ y ∈ b) → a.length = b.length := fun a b ha hb h => ((List.perm_ext_iff_of_nodup ha hb).2 h).length_eq
  by_cases hx : x ∈ l
  · rw [if_pos hx]
    refine perm _ _ (firsts_nodup _) (firsts_nodup _) fun y => ?_
    rw [firsts_mem, firsts_mem, List.mem_append, List.mem_singleton]
    exact ⟨fun h => h.elim id (fun e => e ▸ hx), .inl⟩
  · rw [if_neg hx]
    have := perm (firsts (l ++ [x])) (firsts l ++ [x]) (firsts_nodup _) (by
      rw [List.nodup_append]
      refine ⟨firsts_nodup _, by simp, fun a ha b hb => ?_⟩
      simp only [List.mem_singleton] at hb
      subst hb
      intro e; subst e
      exact hx (firsts_mem.1 ha)) fun y => by rw [firsts_mem, List.mem_append, List.mem_append, firsts_mem]
    rw [this]; simp
theorem nodup_leI {l l' : List Int} (hn : l.Nodup) (hs : ∀ y ∈ l, y ∈ l') : l.length ≤ l'.length := by
  induction l generalizing l' with
  | nil => simp
  | cons a l ih =>
    obtain ⟨h1, h2⟩ := List.nodup_cons.1 hn
    have ha : a ∈ l' := hs a (by simp)
    have := ih (l' := l'.erase a) h2 (fun y hy => (List.mem_erase_of_ne (fun (e : y = a) => h1 (by rw [← e]; exact hy))).2 (hs y (by simp [hy])))
    rw [List.length_erase_of_mem ha] at this
    have := List.length_pos_of_mem ha
    simp only [List.length_cons]
    omega
def diffC (l : List Int) : Nat := (firsts l).length
theorem diffC_le (l : List Int) : diffC l ≤ l.length := nodup_leI (firsts_nodup l) fun _ h => firsts_mem.1 h
theorem diffC_step {l : List Int} {k : Nat} (h : k < l.length) : diffC (l.take (k + 1)) = diffC (l.take k) + if l[k] ∈ l.take k then 0 else 1 := by
  rw [List.take_succ_eq_append_getElem h]; exact firsts_snoc _ _
theorem stacksL_mem {zs : List Int} {z : Int} : z ∈ stacksL zs ↔ ∃ i, i < zs.length ∧ z = (stk zs i : Int) := by
  simp only [stacksL, tab, List.mem_map, List.mem_range]
  exact ⟨fun ⟨i, h1, h2⟩ => ⟨i, h1, h2.symm⟩, fun ⟨i, h1, h2⟩ => ⟨i, h1, h2.symm⟩⟩
theorem stacksL_all {zs : List Int} {s : Nat} (h : s < lis zs) : (s : Int) ∈ stacksL zs := by
  have hne := lvl_some (zs := zs) (i := zs.length) (s := s) (by unfold lis at h; exact h)
  obtain ⟨k, h1, h2, _⟩ := lvl_last hne
  exact stacksL_mem.2 ⟨k, h1, by omega⟩
theorem diffC_stacks (zs : List Int) : diffC (stacksL zs) = lis zs := by
  have h1 := nodup_leI (l := firsts (stacksL zs)) (l' := tab (lis zs) fun s => (s : Int)) (firsts_nodup _) (fun y hy => by
    obtain ⟨i, hi, rfl⟩ := stacksL_mem.1 (firsts_mem.1 hy)
    exact List.mem_map.2 ⟨stk zs i, List.mem_range.2 (by have := stk_le_lis hi; omega), rfl⟩)
  have h2 := nodup_leI (l := tab (lis zs) fun s => (s : Int)) (l' := firsts (stacksL zs)) (by
    unfold tab
    rw [List.nodup_iff_pairwise_ne, List.pairwise_map]
    exact List.nodup_range.imp fun h e => h (by omega)) (fun y hy => by
    obtain ⟨s, hs, rfl⟩ := List.mem_map.1 hy
    exact firsts_mem.2 (stacksL_all (List.mem_range.1 hs)))
  rw [tab_length] at h1 h2
  unfold diffC; omega
theorem diffC_unl {zs ss : List Int} (h : unlB zs ss = true) : lis zs ≤ diffC ss := by
  simp only [unlB, Bool.and_eq_true, decide_eq_true_eq, List.all_eq_true, List.mem_range] at h
  obtain ⟨⟨⟨hv, hl⟩, hr⟩, hok⟩ := h
  obtain ⟨js, hc, hlen⟩ := chain_of_lis zs
  have := nodup_leI (l := js.map fun k => ss.getD k 0) (l' := firsts ss) (by
    rw [List.nodup_iff_pairwise_ne, List.pairwise_map]
    refine hc.1.imp_of_mem fun {a b} ha hb h e => ?_
    have hb' := hc.2 b hb
    exact okU_iff.1 (hok b hb') a h.1 (by unfold stN; rw [e]) h.2) (fun y hy => by
    obtain ⟨k, hk, rfl⟩ := List.mem_map.1 hy
    have := hc.2 k hk
    rw [getD_get (by omega)]
    exact firsts_mem.2 (List.getElem_mem _))
  rw [List.length_map] at this
  unfold diffC; omega
theorem unl_tab {zs : List Int} (hv : rowB 9 zs = true) : unlB zs (tab zs.length fun j => (j : Int)) = true := by
  have h9 := rowB_len hv
  simp only [unlB, hv, tab_length, decide_true, Bool.true_and, Bool.and_eq_true, List.all_eq_true, List.mem_range]
  refine ⟨fun z hz => ?_, fun i hi => okU_iff.2 fun k hk e => ?_⟩
  · obtain ⟨j, hj, rfl⟩ := List.mem_map.1 hz
    rw [List.mem_range] at hj
    simp [inR]; omega
  · unfold stN at e
    rw [getD_tab _ (by omega), getD_tab _ hi] at e
    omega
theorem stN_stacks {zs : List Int} {i : Nat} (h : i < zs.length) : stN (stacksL zs) i = stk zs i := by
  unfold stN stacksL; rw [getD_tab _ h]; omega
theorem unl_stacks {zs : List Int} (hv : rowB 9 zs = true) : unlB zs (stacksL zs) = true := by
  have h9 := rowB_len hv
  simp only [unlB, hv, Bool.true_and, Bool.and_eq_true, List.all_eq_true, List.mem_range, decide_eq_true_eq]
  refine ⟨⟨by simp [stacksL, tab_length], fun z hz => ?_⟩, fun i hi => okU_iff.2 fun k hk e => ?_⟩
  · obtain ⟨j, hj, rfl⟩ := stacksL_mem.1 hz
    have := stk_lt (zs := zs) (i := j)
    simp [inR]; omega
  · rw [stN_stacks hi, stN_stacks (by omega)] at e
    exact okU_iff.1 (okU_stk zs i) k hk e
end Go.Proofs.Ytempfagjbpnlcaa
