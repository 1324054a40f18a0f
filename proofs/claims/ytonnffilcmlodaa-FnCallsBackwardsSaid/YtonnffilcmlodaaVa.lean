/- Calls: what is known, plain. No condition. -/
import Derived.Test.YtonnffilcmlodaaS0
import Derived.Test.YtonnffilcmlodaaH1
namespace Go.Proofs.Ytonnffilcmlodaa
open Go.RowKit

/-- What both know behind a call. -/
def orI (x y : Int) : Int := ((x.toNat ||| y.toNat : Nat) : Int)
/-- Behind a call of a and b. -/
def told (r : List Int) (a b : Nat) : List Int := (r.set a (orI (r.getD a 0) (r.getD b 0))).set b (orI (r.getD a 0) (r.getD b 0))
def toldR (r c : List Int) : List Int := told r (c.getD 0 0).toNat (c.getD 1 0).toNat
def own0 (n : Nat) : List Int := tab n fun i => ((2 ^ i : Nat) : Int)
def kn (n : Nat) (cs : List (List Int)) : List Int := cs.foldl toldR (own0 n)
/-- Numbers that are sets of n people. -/
def Sets (n : Nat) (r : List Int) : Prop := r.length = n ∧ ∀ z ∈ r, 0 ≤ z ∧ z < (2 ^ n : Nat)
def callB (n : Int) (r : List Int) : Bool := (r.length == 2 && inR (r.getD 0 0) 0 (n - 1) && inR (r.getD 1 0) 0 (n - 1)) && r.getD 0 0 != r.getD 1 0
def callsB (n : Int) (rs : List (List Int)) : Bool := rs.all (callB n) && inR n 1 7 && decide (rs.length ≤ 20)

theorem orI_comm (x y : Int) : orI x y = orI y x := by unfold orI; rw [Nat.or_comm]
theorem orI_bd {x y : Int} {n : Nat} (hx : x < (2 ^ n : Nat)) (hy : y < (2 ^ n : Nat)) : 0 ≤ orI x y ∧ orI x y < (2 ^ n : Nat) := by
  have hp := Nat.two_pow_pos n
  have : x.toNat ||| y.toNat < 2 ^ n := Nat.or_lt_two_pow (by omega) (by omega)
  unfold orI; omega
theorem Sets.at {n i : Nat} {r : List Int} (h : Sets n r) : 0 ≤ r.getD i 0 ∧ r.getD i 0 < (2 ^ n : Nat) := by
  have hp := Nat.two_pow_pos n
  by_cases hi : i < r.length
  · rw [List.getD_eq_getElem?_getD, List.getElem?_eq_getElem hi]; exact h.2 _ (List.getElem_mem hi)
  · rw [List.getD_eq_getElem?_getD, List.getElem?_eq_none (by omega)]; exact ⟨Int.le_refl _, by show (0 : Int) < _; omega⟩
theorem told_len (r : List Int) (a b : Nat) : (told r a b).length = r.length := by simp [told]
theorem Sets.told {n : Nat} {r : List Int} (h : Sets n r) (a b : Nat) : Sets n (told r a b) := by
  refine ⟨by rw [told_len]; exact h.1, fun z hz => ?_⟩
  have hv := orI_bd (h.at (i := a)).2 (h.at (i := b)).2
  rcases List.mem_or_eq_of_mem_set hz with hz | rfl
  · rcases List.mem_or_eq_of_mem_set hz with hz | rfl
    · exact h.2 z hz
    · exact hv
  · exact hv
theorem own0_sets (n : Nat) : Sets n (own0 n) := by
  refine ⟨by simp [own0, tab_length], fun z hz => ?_⟩
  unfold own0 tab at hz
  obtain ⟨i, hi, rfl⟩ := List.mem_map.1 hz
  have := Nat.pow_lt_pow_right (show 1 < 2 by omega) (List.mem_range.1 hi)
  exact ⟨Int.natCast_nonneg _, Int.ofNat_lt.2 this⟩
theorem fold_sets {n : Nat} (cs : List (List Int)) : ∀ r, Sets n r → Sets n (cs.foldl toldR r) := by
  induction cs with
  | nil => exact fun r h => h
  | cons c cs ih => exact fun r h => ih _ (h.told _ _)
theorem kn_sets (n : Nat) (cs : List (List Int)) : Sets n (kn n cs) := fold_sets cs _ (own0_sets n)
theorem kn_len (n : Nat) (cs : List (List Int)) : (kn n cs).length = n := (kn_sets n cs).1
theorem kn_snoc (n : Nat) (cs : List (List Int)) (c : List Int) : kn n (cs ++ [c]) = toldR (kn n cs) c := by unfold kn; rw [List.foldl_append]; rfl
theorem snoc_of {cs : List (List Int)} {m : Nat} (h : cs.length = m + 1) : ∃ ds c, cs = ds ++ [c] := ⟨cs.take m, cs[m], by rw [← List.take_succ_eq_append_getElem (by omega), ← h, List.take_length]⟩
theorem kn_nil (n : Nat) : kn n [] = own0 n := rfl

theorem callB_of {n : Int} {r : List Int} (h : callB n r = true) : ∃ a b : Nat, r = [(a : Int), (b : Int)] ∧ (a : Int) < n ∧ (b : Int) < n ∧ a ≠ b := by
  simp only [callB, Bool.and_eq_true, beq_iff_eq, inR_iff, bne_iff_ne, ne_eq] at h
  obtain ⟨⟨⟨hl, h0⟩, h1⟩, hne⟩ := h
  match r, hl with
  | [x, y], _ =>
    simp only [List.getD_eq_getElem?_getD, List.getElem?_cons_zero, Option.getD_some, List.getElem?_cons_succ] at h0 h1 hne
    exact ⟨x.toNat, y.toNat, by rw [show ((x.toNat : Nat) : Int) = x by omega, show ((y.toNat : Nat) : Int) = y by omega], by omega, by omega, by omega⟩
theorem callB_mk {n : Int} {a b : Nat} (ha : (a : Int) < n) (hb : (b : Int) < n) (hab : a ≠ b) : callB n [(a : Int), (b : Int)] = true := by
  simp only [callB, List.length_cons, List.length_nil, List.getD_eq_getElem?_getD, List.getElem?_cons_zero, Option.getD_some, List.getElem?_cons_succ, Bool.and_eq_true, inR_iff, bne_iff_ne, ne_eq, beq_iff_eq]
  exact ⟨⟨⟨by trivial, by omega⟩, by omega⟩, by omega⟩
theorem callsB_of {n : Int} {rs : List (List Int)} (h : callsB n rs = true) : (∀ r ∈ rs, callB n r = true) ∧ 1 ≤ n ∧ n ≤ 7 ∧ rs.length ≤ 20 := by
  simp only [callsB, Bool.and_eq_true, List.all_eq_true, inR_iff, decide_eq_true_eq] at h
  exact ⟨h.1.1, h.1.2.1, h.1.2.2, h.2⟩
theorem callsB_mk {n : Int} {rs : List (List Int)} (h : ∀ r ∈ rs, callB n r = true) (h1 : 1 ≤ n) (h2 : n ≤ 7) (h3 : rs.length ≤ 20) : callsB n rs = true := by
  simp only [callsB, Bool.and_eq_true, List.all_eq_true, inR_iff, decide_eq_true_eq]
  exact ⟨⟨h, h1, h2⟩, h3⟩
theorem callsB_take {n : Int} {rs : List (List Int)} (k : Nat) (h : callsB n rs = true) : callsB n (rs.take k) = true := by
  obtain ⟨h1, h2, h3, h4⟩ := callsB_of h
  exact callsB_mk (fun r hr => h1 r (List.mem_of_mem_take hr)) h2 h3 (by rw [List.length_take]; omega)
theorem callsB_rev {n : Int} {rs : List (List Int)} (h : callsB n rs = true) : callsB n rs.reverse = true := by
  obtain ⟨h1, h2, h3, h4⟩ := callsB_of h
  exact callsB_mk (fun r hr => h1 r (List.mem_reverse.1 hr)) h2 h3 (by rw [List.length_reverse]; omega)

/-- The bit of k in what i knows. -/
def kb (r : List Int) (i k : Nat) : Bool := (r.getD i 0).toNat.testBit k
theorem kb_told {r : List Int} {a b : Nat} (ha : a < r.length) (hb : b < r.length) (i k : Nat) : kb (told r a b) i k = if i = a ∨ i = b then (kb r a k || kb r b k) else kb r i k := by
  unfold kb told
  simp only [List.getD_eq_getElem?_getD, List.getElem?_set, List.length_set]
  by_cases h1 : b = i
  · subst h1; simp [hb, orI, Nat.testBit_or]
  · by_cases h2 : a = i
    · subst h2; simp [ha, h1, orI, Nat.testBit_or]
    · have h1' : ¬ i = b := fun h => h1 h.symm
      have h2' : ¬ i = a := fun h => h2 h.symm
      simp [h1, h2, h1', h2']
theorem kb_own {n i k : Nat} (hi : i < n) : kb (own0 n) i k = decide (k = i) := by
  unfold kb own0
  rw [List.getD_eq_getElem?_getD, List.getElem?_eq_getElem (by rw [tab_length]; exact hi), Option.getD_some, tab_get hi]
  show ((2 ^ i : Nat) : Int).toNat.testBit k = _
  rw [Int.toNat_natCast, Nat.testBit_two_pow]
  by_cases h : i = k <;> simp [h, eq_comm]

/-- Whose news comes to i by calls. -/
def addC (c : List Int) (S : List Nat) : List Nat :=
  if (c.getD 0 0).toNat ∈ S then (if (c.getD 1 0).toNat ∈ S then S else (c.getD 1 0).toNat :: S) else if (c.getD 1 0).toNat ∈ S then (c.getD 0 0).toNat :: S else S
def back : List (List Int) → Nat → List Nat
  | [], i => [i]
  | c :: cs, i => addC c (back cs i)
theorem addC_mem (c : List Int) (S : List Nat) (j : Nat) : j ∈ addC c S ↔ if j = (c.getD 0 0).toNat ∨ j = (c.getD 1 0).toNat then ((c.getD 0 0).toNat ∈ S ∨ (c.getD 1 0).toNat ∈ S) else j ∈ S := by
  unfold addC
  generalize (c.getD 0 0).toNat = a
  generalize (c.getD 1 0).toNat = b
  by_cases h1 : j = a <;> by_cases h2 : j = b <;> by_cases h3 : a ∈ S <;> by_cases h4 : b ∈ S <;> simp_all
theorem back_len (cs : List (List Int)) (i : Nat) : (back cs i).length ≤ cs.length + 1 := by
  induction cs with
  | nil => simp [back]
  | cons c cs ih =>
    simp only [back, addC, List.length_cons]
    repeat' split
    all_goals ((try simp only [List.length_cons]); omega)
theorem back_self (cs : List (List Int)) (i : Nat) : i ∈ back cs i := by
  induction cs with
  | nil => simp [back]
  | cons c cs ih =>
    rw [back, addC_mem]
    split
    · rename_i h
      rcases h with h | h
      · exact .inl (h ▸ ih)
      · exact .inr (h ▸ ih)
    · exact ih
/-- Each call is of two of n people. -/
def TwoC (n : Nat) (cs : List (List Int)) : Prop := ∀ c ∈ cs, (c.getD 0 0).toNat < n ∧ (c.getD 1 0).toNat < n
theorem twoC_of {n : Nat} {rs : List (List Int)} (h : callsB n rs = true) : TwoC n rs := fun r hr => by
  obtain ⟨a, b, rfl, h1, h2, h3⟩ := callB_of ((callsB_of h).1 r hr)
  exact ⟨by simp; omega, by simp; omega⟩
theorem fold_bit {n : Nat} (cs : List (List Int)) (h2 : TwoC n cs) : ∀ r : List Int, r.length = n → ∀ i k, (kb (cs.foldl toldR r) i k = true ↔ ∃ j ∈ back cs i, kb r j k = true) := by
  induction cs with
  | nil => intro r _ i k; simp [back]
  | cons c cs ih =>
    intro r hr i k
    have hc := h2 c (by simp)
    rw [List.foldl_cons, ih (fun d hd => h2 d (by simp [hd])) _ (by unfold toldR; rw [told_len, hr])]
    simp only [back, toldR]
    constructor
    · rintro ⟨j, hj, hb⟩
      rw [kb_told (by omega) (by omega)] at hb
      by_cases hjc : j = (c.getD 0 0).toNat ∨ j = (c.getD 1 0).toNat
      · rw [if_pos hjc, Bool.or_eq_true] at hb
        have hin : (c.getD 0 0).toNat ∈ back cs i ∨ (c.getD 1 0).toNat ∈ back cs i := by
          rcases hjc with h | h
          · exact .inl (h ▸ hj)
          · exact .inr (h ▸ hj)
        rcases hb with hb | hb
        · exact ⟨_, (addC_mem _ _ _).2 (by rw [if_pos (.inl rfl)]; exact hin), hb⟩
        · exact ⟨_, (addC_mem _ _ _).2 (by rw [if_pos (.inr rfl)]; exact hin), hb⟩
      · rw [if_neg hjc] at hb
        exact ⟨j, (addC_mem _ _ _).2 (by rw [if_neg hjc]; exact hj), hb⟩
    · rintro ⟨j, hj, hb⟩
      rw [addC_mem] at hj
      by_cases hjc : j = (c.getD 0 0).toNat ∨ j = (c.getD 1 0).toNat
      · rw [if_pos hjc] at hj
        have hbb : (kb r (c.getD 0 0).toNat k || kb r (c.getD 1 0).toNat k) = true := by
          rcases hjc with h | h
          · rw [← h, hb]; rfl
          · rw [← h, hb]; simp
        rcases hj with h | h
        · exact ⟨_, h, by rw [kb_told (by omega) (by omega), if_pos (.inl rfl)]; exact hbb⟩
        · exact ⟨_, h, by rw [kb_told (by omega) (by omega), if_pos (.inr rfl)]; exact hbb⟩
      · rw [if_neg hjc] at hj
        exact ⟨j, hj, by rw [kb_told (by omega) (by omega), if_neg hjc]; exact hb⟩
theorem back_lt {n : Nat} {cs : List (List Int)} (h2 : TwoC n cs) {i : Nat} (hi : i < n) : ∀ j ∈ back cs i, j < n := by
  induction cs with
  | nil => intro j hj; simp [back] at hj; omega
  | cons c cs ih =>
    intro j hj
    rw [back, addC_mem] at hj
    have hc := h2 c (by simp)
    by_cases hjc : j = (c.getD 0 0).toNat ∨ j = (c.getD 1 0).toNat
    · rcases hjc with h | h <;> omega
    · rw [if_neg hjc] at hj
      exact ih (fun d hd => h2 d (by simp [hd])) j hj
/-- Who knows whose news. -/
theorem kn_back {n : Nat} {cs : List (List Int)} (h2 : TwoC n cs) {i : Nat} (hi : i < n) (k : Nat) : kb (kn n cs) i k = true ↔ k ∈ back cs i := by
  unfold kn
  rw [fold_bit cs h2 _ (own0_sets n).1 i k]
  constructor
  · rintro ⟨j, hj, hb⟩
    rw [kb_own (back_lt h2 hi j hj)] at hb
    rw [of_decide_eq_true hb]; exact hj
  · intro h
    exact ⟨k, h, by rw [kb_own (back_lt h2 hi k h)]; simp⟩
theorem kn_self {n : Nat} {cs : List (List Int)} (h2 : TwoC n cs) {i : Nat} (hi : i < n) : kb (kn n cs) i i = true := (kn_back h2 hi i).2 (back_self cs i)

theorem two_rev {n : Nat} {cs : List (List Int)} (h2 : TwoC n cs) : TwoC n cs.reverse := fun c hc => h2 c (List.mem_reverse.1 hc)
theorem kn_rev {n : Nat} (m : Nat) : ∀ cs : List (List Int), cs.length = m → TwoC n cs → ∀ i k, i < n → k < n → kb (kn n cs) i k = kb (kn n cs.reverse) k i := by
  induction m with
  | zero =>
    intro cs hl _ i k hi hk
    rw [List.eq_nil_of_length_eq_zero hl]
    show kb (own0 n) i k = kb (own0 n) k i
    rw [kb_own hi, kb_own hk]
    by_cases h : k = i
    · simp [h]
    · have h' : ¬ i = k := fun e => h e.symm
      simp [h, h']
  | succ m ih =>
    intro cs hl h2 i k hi hk
    obtain ⟨ds, c, rfl⟩ : ∃ ds c, cs = ds ++ [c] := snoc_of hl
    have hd2 : TwoC n ds := fun d hd => h2 d (by simp [hd])
    have hc := h2 c (by simp)
    have hIH := ih ds (by simpa using hl)  hd2
    rw [kn_snoc, toldR, kb_told (by rw [kn_len]; omega) (by rw [kn_len]; omega), Bool.eq_iff_iff, kn_back (two_rev h2) hk i, List.reverse_append, List.reverse_cons, List.reverse_nil, List.nil_append, List.singleton_append, back, addC_mem]
    rw [← kn_back (two_rev hd2) hk, ← kn_back (two_rev hd2) hk, ← kn_back (two_rev hd2) hk]
    rw [← hIH _ k hc.1 hk, ← hIH _ k hc.2 hk, ← hIH i k hi hk]
    split
    · rw [Bool.or_eq_true]
    · exact Iff.rfl

/-- All that can be known. -/
def allN (n : Nat) : Int := ((2 ^ n - 1 : Nat) : Int)
theorem pig : ∀ (n : Nat) (S : List Nat), (∀ k, k < n → k ∈ S) → n ≤ S.length := by
  intro n
  induction n with
  | zero => intro S _; omega
  | succ n ih =>
    intro S h
    have h1 := ih (S.filter (fun x => x != n)) (fun k hk => List.mem_filter.2 ⟨h k (by omega), by simp; omega⟩)
    have h2 : (S.filter (fun x => x != n)).length < S.length := by
      refine Nat.lt_of_le_of_ne (List.length_filter_le _ _) (fun he => ?_)
      have := (List.length_filter_eq_length_iff.1 he) n (h n (by omega))
      simp at this
    omega
theorem full_bits {n : Nat} {r : List Int} {i : Nat} (h : r.getD i 0 = allN n) {k : Nat} (hk : k < n) : kb r i k = true := by
  unfold kb; rw [h]; unfold allN; rw [Int.toNat_natCast, Nat.testBit_two_pow_sub_one]; simpa using hk
theorem full_len {n : Nat} {cs : List (List Int)} (h2 : TwoC n cs) {i : Nat} (hi : i < n) (h : (kn n cs).getD i 0 = allN n) : n ≤ cs.length + 1 :=
  Nat.le_trans (pig n _ fun k hk => (kn_back h2 hi k).1 (full_bits h hk)) (back_len cs i)
/-- How many know all. -/
def cntF (n : Nat) (r : List Int) : Nat := (List.range n).countP fun i => r.getD i 0 == allN n
theorem count_split (p q : Nat → Bool) (a b : Nat) (l : List Nat) (h : ∀ i ∈ l, q i = true → p i = true ∨ i = a ∨ i = b) : l.countP q ≤ l.countP p + l.count a + l.count b := by
  induction l with
  | nil => simp
  | cons x l ih =>
    have h1 := ih (fun i hi => h i (by simp [hi]))
    have h2 := h x (by simp)
    simp only [List.countP_cons, List.count_cons]
    by_cases hq : q x = true
    · rcases h2 hq with h3 | h3 | h3
      · simp only [hq, h3, if_true]; omega
      · subst h3; simp only [hq, if_true, beq_self_eq_true]; split <;> split <;> omega
      · subst h3; simp only [hq, if_true, beq_self_eq_true]; split <;> split <;> omega
    · simp only [hq]; simp; omega
theorem count_range (n a : Nat) : (List.range n).count a ≤ 1 := List.nodup_iff_count.1 List.nodup_range a
theorem told_other {r : List Int} {a b i : Nat} (h1 : i ≠ a) (h2 : i ≠ b) : (told r a b).getD i 0 = r.getD i 0 := by
  unfold told
  simp only [List.getD_eq_getElem?_getD, List.getElem?_set, List.length_set]
  have h1' : ¬ a = i := fun h => h1 h.symm
  have h2' : ¬ b = i := fun h => h2 h.symm
  simp [h1', h2']
theorem cnt_step (n : Nat) (r c : List Int) : cntF n (toldR r c) ≤ cntF n r + 2 := by
  have h := count_split (fun i => r.getD i 0 == allN n) (fun i => (toldR r c).getD i 0 == allN n) (c.getD 0 0).toNat (c.getD 1 0).toNat (List.range n) (fun i _ hq => by
    by_cases h1 : i = (c.getD 0 0).toNat
    · exact .inr (.inl h1)
    · by_cases h2 : i = (c.getD 1 0).toNat
      · exact .inr (.inr h2)
      · refine .inl ?_
        unfold toldR at hq; rw [told_other h1 h2] at hq; exact hq)
  have h1 := count_range n (c.getD 0 0).toNat
  have h2 := count_range n (c.getD 1 0).toNat
  unfold cntF; omega
theorem cnt_low {n : Nat} (m : Nat) : ∀ cs : List (List Int), cs.length = m → TwoC n cs → cntF n (kn n cs) = 0 ∨ cntF n (kn n cs) + 2 * n ≤ 2 * m + 4 := by
  induction m with
  | zero =>
    intro cs hl h2
    by_cases h0 : cntF n (kn n cs) = 0
    · exact .inl h0
    · right
      obtain ⟨i, hi, hp⟩ := List.countP_pos_iff.1 (Nat.pos_of_ne_zero h0)
      have h1 := full_len h2 (List.mem_range.1 hi) (by simpa using hp)
      have h3 : cntF n (kn n cs) ≤ n := by have := List.countP_le_length (p := fun i => (kn n cs).getD i 0 == allN n) (l := List.range n); rw [List.length_range] at this; exact this
      omega
  | succ m ih =>
    intro cs hl h2
    obtain ⟨ds, c, rfl⟩ : ∃ ds c, cs = ds ++ [c] := snoc_of hl
    have hd2 : TwoC n ds := fun d hd => h2 d (by simp [hd])
    by_cases h0 : cntF n (kn n (ds ++ [c])) = 0
    · exact .inl h0
    · right
      obtain ⟨i, hi, hp⟩ := List.countP_pos_iff.1 (Nat.pos_of_ne_zero h0)
      have h1 := full_len h2 (List.mem_range.1 hi) (by simpa using hp)
      have h3 := cnt_step n (kn n ds) c
      rw [← kn_snoc] at h3
      rcases ih ds (by simpa using hl) hd2 with h | h <;> omega
/-- If all know all, there were calls enough. -/
theorem low {n : Nat} (hn : 1 ≤ n) {cs : List (List Int)} (h2 : TwoC n cs) (h : ∀ i, i < n → (kn n cs).getD i 0 = allN n) : 3 * n ≤ 2 * cs.length + 4 := by
  have hc : cntF n (kn n cs) = n := by
    unfold cntF
    rw [List.countP_eq_length.2 (fun i hi => by simpa using h i (List.mem_range.1 hi)), List.length_range]
  rcases cnt_low cs.length cs rfl h2 with h3 | h3 <;> omega
theorem kn_more {n : Nat} (cs : List (List Int)) (c : List Int) (h2 : TwoC n (cs ++ [c])) (i k : Nat) (h : kb (kn n cs) i k = true) : kb (kn n (cs ++ [c])) i k = true := by
  have hc := h2 c (by simp)
  rw [kn_snoc, toldR, kb_told (by rw [kn_len]; omega) (by rw [kn_len]; omega)]
  split
  · rename_i h1
    rcases h1 with h1 | h1
    · rw [← h1, h]; rfl
    · rw [← h1, h]; simp
  · exact h

/-- The calls of all. -/
def coreN (n : Nat) : Nat := if n ≤ 2 then n else if n = 3 then 2 else 4
def coreL (k : Nat) : List (List Int) := if k = 2 then [[0, 1]] else if k = 4 then [[0, 1], [2, 3], [0, 2], [1, 3]] else []
def downL (n m : Nat) : List (List Int) := (List.range m).map fun j => [((n - 1 - j : Nat) : Int), 0]
def upR (core m : Nat) : List (List Int) := (List.range m).map fun j => [0, ((core + j : Nat) : Int)]
def cfL (n : Nat) : List (List Int) := downL n (n - coreN n) ++ coreL (coreN n) ++ upR (coreN n) (n - coreN n)
def fewC (n : Nat) : Nat := if n = 1 then 0 else if n = 2 then 1 else if n = 3 then 3 else 2 * n - 4
theorem cf_all : ∀ n : Fin 8, 1 ≤ n.val → callsB n.val (cfL n.val) = true ∧ (cfL n.val).length = fewC n.val ∧ ∀ i : Fin 8, i.val < n.val → (kn n.val (cfL n.val)).getD i.val 0 = allN n.val := by decide +kernel
theorem cf_tail : ∀ n : Fin 8, 2 ≤ n.val → callsB n.val (cfL n.val).tail = true ∧ ∃ i : Fin 8, i.val < n.val ∧ (kn n.val (cfL n.val).tail).getD i.val 0 ≠ allN n.val := by decide +kernel
end Go.Proofs.Ytonnffilcmlodaa
