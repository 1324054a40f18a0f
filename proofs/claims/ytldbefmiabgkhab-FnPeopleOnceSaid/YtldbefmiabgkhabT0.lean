/- Lists, plain: answers, their depths and their order; letters sent on. No condition. -/
import Derived.Test.YtldbefmiabgkhabS0
import Derived.Test.YtldbefmiabgkhabA1
import Derived.Test.YtldbefmiabgkhabH1
import Derived.Test.YtldbefmiabgkhabN14
namespace Go.Proofs.Ytldbefmiabgkhab
open Go.RowKit

theorem nodup_leL {l l' : List Int} (hn : l.Nodup) (hs : ∀ y ∈ l, y ∈ l') : l.length ≤ l'.length := by
  induction l generalizing l' with
  | nil => simp
  | cons a t ih =>
    have h1 := List.nodup_cons.1 hn
    have h2 : ∀ y ∈ t, y ∈ l'.erase a := fun y hy => (List.mem_erase_of_ne (fun e => h1.1 (by rw [← e]; exact hy))).2 (hs y (by simp [hy]))
    have h3 := ih h1.2 h2
    have h4 := hs a (by simp)
    rw [List.length_erase_of_mem h4] at h3
    have := List.length_pos_of_mem h4
    simp only [List.length_cons]; omega

/-- Numbers are answers to letters ahead. -/
def okA (zs : List Int) (i : Nat) : Bool := inR (zs.getD i 0) (-1) ((i : Int) - 1)
def ansB (zs : List Int) : Bool := (List.range zs.length).all (okA zs) && decide (zs.length ≤ 9)
theorem ans_long {zs : List Int} (h : ¬ zs.length ≤ 9) : ansB zs = false := by simp [ansB, h]
theorem ans_no {zs : List Int} {k : Nat} (hk : k < zs.length) (h : okA zs k = false) : ansB zs = false := by rw [ansB, all_range_no hk h, Bool.false_and]
structure Ans (zs : List Int) : Prop where
  n9 : zs.length ≤ 9
  lo : ∀ i, i < zs.length → -1 ≤ zs.getD i 0
  hi : ∀ i, i < zs.length → zs.getD i 0 < i
theorem ans_of {zs : List Int} (h : ansB zs = true) : Ans zs := by
  rw [ansB, Bool.and_eq_true, decide_eq_true_eq] at h
  refine ⟨h.2, fun i hi => ?_, fun i hi => ?_⟩
  · have := inR_iff.1 (all_range h.1 hi); omega
  · have := inR_iff.1 (all_range h.1 hi); omega

/-- Depths. -/
def depF (zs : List Int) : Nat → Nat → Int
  | 0, _ => 0
  | f + 1, k => if zs.getD k 0 < 0 then 0 else depF zs f (zs.getD k 0).toNat + 1
def dv (zs : List Int) (k : Nat) : Int := depF zs (k + 1) k
theorem depF_more {zs : List Int} (h : Ans zs) : ∀ (f k : Nat), k < zs.length → k < f → depF zs f k = dv zs k := by
  intro f
  induction f using Nat.strongRecOn with
  | ind f ih =>
    intro k hk hf
    obtain ⟨f', rfl⟩ : ∃ f', f = f' + 1 := ⟨f - 1, by omega⟩
    by_cases hz : zs.getD k 0 < 0
    · simp only [dv, depF, if_pos hz]
    · have hh := h.hi k hk
      simp only [dv, depF, if_neg hz]
      by_cases e : k = f'
      · rw [e]
      · rw [ih f' (by omega) (zs.getD k 0).toNat (by omega) (by omega), ih k (by omega) (zs.getD k 0).toNat (by omega) (by omega)]
theorem dv_root {zs : List Int} {k : Nat} (hz : zs.getD k 0 < 0) : dv zs k = 0 := by simp only [dv, depF, if_pos hz]
theorem dv_step {zs : List Int} (h : Ans zs) {k j : Nat} (hk : k < zs.length) (hz : zs.getD k 0 = (j : Int)) : dv zs k = dv zs j + 1 := by
  have hh := h.hi k hk
  have e : dv zs k = depF zs k j + 1 := by
    simp only [dv, depF]
    rw [if_neg (by omega), hz]; rfl
  rw [e, depF_more h k j (by omega) (by omega)]
theorem dv_bd {zs : List Int} (h : Ans zs) (k : Nat) : k < zs.length → 0 ≤ dv zs k ∧ dv zs k ≤ k := by
  induction k using Nat.strongRecOn with
  | ind k ih =>
    intro hk
    by_cases hz : zs.getD k 0 < 0
    · rw [dv_root hz]; omega
    · have hh := h.hi k hk
      have := dv_step h hk (j := (zs.getD k 0).toNat) (by omega)
      have := ih (zs.getD k 0).toNat (by omega) (by omega)
      omega

/-- Answers to x, each one followed by those to it. -/
def rf (zs : List Int) : Nat → Int → List Int
  | 0, _ => []
  | f + 1, x => (List.range zs.length).flatMap (fun k => if zs.getD k 0 = x then (k : Int) :: rf zs f k else [])
def ro (zs : List Int) (x : Int) : List Int := rf zs ((zs.length : Int) - x).toNat x
def blockOf (zs : List Int) (x : Int) (k : Nat) : List Int := if zs.getD k 0 = x then (k : Int) :: ro zs k else []
def roK (zs : List Int) (x : Int) (m : Nat) : List Int := (List.range m).flatMap (blockOf zs x)
theorem rf_more {zs : List Int} (h : Ans zs) : ∀ (f : Nat) (x : Int), -1 ≤ x → ((zs.length : Int) - x).toNat ≤ f → rf zs f x = ro zs x := by
  intro f
  induction f using Nat.strongRecOn with
  | ind f ih =>
    intro x hx hf
    unfold ro
    generalize hg : ((zs.length : Int) - x).toNat = g at hf
    match f, g with
    | 0, 0 => rfl
    | 0, g + 1 => omega
    | f + 1, 0 =>
      simp only [rf]
      rw [List.flatMap_eq_nil_iff]
      intro k hk
      have hk := List.mem_range.1 hk
      have := h.hi k hk
      rw [if_neg (by omega)]
    | f + 1, g + 1 =>
      simp only [rf]
      congr 1
      funext k
      by_cases hk : k < zs.length
      · by_cases e : zs.getD k 0 = x
        · have := h.hi k hk
          rw [if_pos e, if_pos e, ih f (by omega) k (by omega) (by omega), ih g (by omega) k (by omega) (by omega)]
        · rw [if_neg e, if_neg e]
      · have e2 : zs.getD k 0 = 0 := by simp [List.getD, List.getElem?_eq_none (Nat.le_of_not_lt hk)]
        have hz : ∀ (f : Nat), rf zs f (k : Int) = [] := fun f => by
          cases f with
          | zero => rfl
          | succ f =>
            simp only [rf]
            rw [List.flatMap_eq_nil_iff]
            intro j hj
            have hj := List.mem_range.1 hj
            have := h.hi j hj
            rw [if_neg (by omega)]
        rw [hz f, hz g]
theorem ro_eq {zs : List Int} (h : Ans zs) {x : Int} (hx : -1 ≤ x) : ro zs x = roK zs x zs.length := by
  rw [← rf_more h (((zs.length : Int) - x).toNat + 1) x hx (by omega)]
  simp only [rf, roK]
  rw [List.flatMap_def, List.flatMap_def]
  congr 1
  refine List.map_congr_left fun k hk => ?_
  have hk := List.mem_range.1 hk
  by_cases e : zs.getD k 0 = x
  · have := h.hi k hk
    rw [if_pos e, blockOf, if_pos e, rf_more h _ k (by omega) (by omega)]
  · rw [if_neg e, blockOf, if_neg e]
theorem roK_zero (zs : List Int) (x : Int) : roK zs x 0 = [] := rfl
theorem roK_succ (zs : List Int) (x : Int) (m : Nat) : roK zs x (m + 1) = roK zs x m ++ blockOf zs x m := by
  simp only [roK, List.range_succ, List.flatMap_append, List.flatMap_cons, List.flatMap_nil, List.append_nil]
theorem roK_same {zs : List Int} {x : Int} {m : Nat} (h : ¬ zs.getD m 0 = x) : roK zs x (m + 1) = roK zs x m := by
  rw [roK_succ, blockOf, if_neg h, List.append_nil]
theorem roK_next {zs : List Int} {x : Int} {m : Nat} (h : zs.getD m 0 = x) : roK zs x (m + 1) = (roK zs x m ++ [(m : Int)]) ++ ro zs m := by
  rw [roK_succ, blockOf, if_pos h, List.append_assoc]; rfl
/-- No answer up to the letter itself. -/
theorem roK_low {zs : List Int} (h : Ans zs) {x : Int} {m : Nat} (hm : m ≤ zs.length) (hx : (m : Int) ≤ x + 1) : roK zs x m = [] := by
  rw [roK, List.flatMap_eq_nil_iff]
  intro k hk
  have hk := List.mem_range.1 hk
  have := h.hi k (by omega)
  rw [blockOf, if_neg (by omega)]
theorem roK_pre {zs : List Int} {x : Int} {m n : Nat} (h : m ≤ n) : ∃ t, roK zs x n = roK zs x m ++ t := by
  induction n with
  | zero => obtain rfl : m = 0 := by omega
            exact ⟨[], by simp⟩
  | succ n ih =>
    by_cases e : m = n + 1
    · exact ⟨[], by simp [e]⟩
    · obtain ⟨t, ht⟩ := ih (by omega)
      exact ⟨t ++ blockOf zs x n, by rw [roK_succ, ht, List.append_assoc]⟩

theorem mem_ro {zs : List Int} (h : Ans zs) {x : Int} (hx : -1 ≤ x) {a : Int} : a ∈ ro zs x ↔ ∃ k, k < zs.length ∧ zs.getD k 0 = x ∧ (a = (k : Int) ∨ a ∈ ro zs k) := by
  rw [ro_eq h hx, roK, List.mem_flatMap]
  constructor
  · rintro ⟨k, hk, ha⟩
    rw [blockOf] at ha
    by_cases e : zs.getD k 0 = x
    · rw [if_pos e, List.mem_cons] at ha
      exact ⟨k, List.mem_range.1 hk, e, ha⟩
    · rw [if_neg e] at ha; cases ha
  · rintro ⟨k, hk, e, ha⟩
    exact ⟨k, List.mem_range.2 hk, by rw [blockOf, if_pos e, List.mem_cons]; exact ha⟩
theorem ro_m1 {zs : List Int} (h : Ans zs) {k : Nat} (hk : k < zs.length) : (k : Int) ∈ ro zs (zs.getD k 0) := (mem_ro h (h.lo k hk)).2 ⟨k, hk, rfl, .inl rfl⟩
/-- From a letter to those below. -/
theorem ro_low {zs : List Int} (h : Ans zs) : ∀ (f : Nat) (x : Int), -1 ≤ x → ((zs.length : Int) - x).toNat ≤ f → ∀ a ∈ ro zs x, x < a ∧ a < zs.length ∧ ∃ k : Nat, a = k := by
  intro f
  induction f with
  | zero =>
    intro x hx hf a ha
    obtain ⟨k, hk, e, _⟩ := (mem_ro h hx).1 ha
    have := h.hi k hk; omega
  | succ f ih =>
    intro x hx hf a ha
    obtain ⟨k, hk, e, h1⟩ := (mem_ro h hx).1 ha
    have := h.hi k hk
    rcases h1 with rfl | h1
    · exact ⟨by omega, by omega, k, rfl⟩
    · have := ih k (by omega) (by omega) a h1
      exact ⟨by omega, this.2⟩
theorem ro_lt {zs : List Int} (h : Ans zs) {x a : Int} (hx : -1 ≤ x) (ha : a ∈ ro zs x) : x < a ∧ a < zs.length ∧ ∃ k : Nat, a = k := ro_low h _ x hx (Nat.le_refl _) a ha
theorem ro_trans {zs : List Int} (h : Ans zs) : ∀ (f : Nat) (x : Int), -1 ≤ x → ((zs.length : Int) - x).toNat ≤ f → ∀ j ∈ ro zs x, ∀ a ∈ ro zs j, a ∈ ro zs x := by
  intro f
  induction f with
  | zero =>
    intro x hx hf a ha
    have := ro_lt h hx ha; omega
  | succ f ih =>
    intro x hx hf j hj a ha
    obtain ⟨k, hk, e, h1⟩ := (mem_ro h hx).1 hj
    have := h.hi k hk
    refine (mem_ro h hx).2 ⟨k, hk, e, .inr ?_⟩
    rcases h1 with rfl | h1
    · exact ha
    · exact ih k (by omega) (by omega) j h1 a ha
theorem ro_m2 {zs : List Int} (h : Ans zs) {x j a : Int} (hx : -1 ≤ x) (hj : j ∈ ro zs x) (ha : a ∈ ro zs j) : a ∈ ro zs x := ro_trans h _ x hx (Nat.le_refl _) j hj a ha
theorem ro_up {zs : List Int} (h : Ans zs) : ∀ (f : Nat) (x : Int), -1 ≤ x → ((zs.length : Int) - x).toNat ≤ f → ∀ a : Nat, (a : Int) ∈ ro zs x → zs.getD a 0 = x ∨ zs.getD a 0 ∈ ro zs x := by
  intro f
  induction f with
  | zero =>
    intro x hx hf a ha
    have := ro_lt h hx ha; omega
  | succ f ih =>
    intro x hx hf a ha
    obtain ⟨k, hk, e, h1⟩ := (mem_ro h hx).1 ha
    have := h.hi k hk
    have hkx : (k : Int) ∈ ro zs x := by rw [← e]; exact ro_m1 h hk
    rcases h1 with h1 | h1
    · obtain rfl : a = k := by omega
      exact .inl e
    · rcases ih k (by omega) (by omega) a h1 with h2 | h2
      · rw [h2]; exact .inr hkx
      · exact .inr (ro_m2 h hx hkx h2)
theorem ro_m3 {zs : List Int} (h : Ans zs) {x : Int} {a : Nat} (hx : -1 ≤ x) (ha : (a : Int) ∈ ro zs x) : zs.getD a 0 = x ∨ zs.getD a 0 ∈ ro zs x := ro_up h _ x hx (Nat.le_refl _) a ha
/-- Two answers to one letter have no answers in common. -/
theorem ro_apart {zs : List Int} (h : Ans zs) {x : Int} {i j : Nat} (hij : i < j) (hj : j < zs.length) (ei : zs.getD i 0 = x) (ej : zs.getD j 0 = x) :
    ∀ a : Nat, (a : Int) ∈ (i : Int) :: ro zs i → (a : Int) ∈ (j : Int) :: ro zs j → False := by
  intro a
  induction a using Nat.strongRecOn with
  | ind a ih =>
    intro h1 h2
    have hi1 := h.hi i (by omega)
    have hj1 := h.hi j hj
    rw [List.mem_cons] at h1 h2
    rcases h2 with h2 | h2
    · obtain rfl : a = j := by omega
      rcases h1 with h1 | h1
      · omega
      · rcases ro_m3 h (by omega) h1 with h3 | h3
        · omega
        · have := ro_lt h (by omega) h3; omega
    · have hja := ro_lt h (by omega) h2
      rcases h1 with h1 | h1
      · omega
      · have h3 : zs.getD a 0 ∈ (i : Int) :: ro zs i := by rw [List.mem_cons]; exact ro_m3 h (by omega) h1
        have h4 : zs.getD a 0 ∈ (j : Int) :: ro zs j := by rw [List.mem_cons]; exact ro_m3 h (by omega) h2
        have ha := h.hi a (by omega)
        have hlo : (0 : Int) ≤ zs.getD a 0 := by
          rw [List.mem_cons] at h3
          rcases h3 with h3 | h3
          · omega
          · have := ro_lt h (by omega) h3; omega
        have e : zs.getD a 0 = ((zs.getD a 0).toNat : Int) := by omega
        rw [e] at h3 h4
        exact ih _ (by omega) h3 h4
theorem ro_nodup {zs : List Int} (h : Ans zs) : ∀ (f : Nat) (x : Int), -1 ≤ x → ((zs.length : Int) - x).toNat ≤ f → (ro zs x).Nodup := by
  intro f
  induction f with
  | zero =>
    intro x hx hf
    have : ro zs x = [] := by
      rw [List.eq_nil_iff_forall_not_mem]
      intro a ha
      have := ro_lt h hx ha; omega
    rw [this]; exact List.nodup_nil
  | succ f ih =>
    intro x hx hf
    rw [ro_eq h hx, roK]
    unfold List.Nodup
    rw [List.pairwise_flatMap]
    constructor
    · intro k hk
      have hk := List.mem_range.1 hk
      rw [blockOf]
      by_cases e : zs.getD k 0 = x
      · have := h.hi k hk
        rw [if_pos e]
        refine List.nodup_cons.2 ⟨fun hh => ?_, ih k (by omega) (by omega)⟩
        have := ro_lt h (by omega) hh; omega
      · rw [if_neg e]; exact List.Pairwise.nil
    · refine List.Pairwise.imp_of_mem ?_ (List.pairwise_lt_range)
      intro i j hi hj hij a ha b hb e
      have hi := List.mem_range.1 hi
      have hj := List.mem_range.1 hj
      subst e
      rw [blockOf] at ha hb
      by_cases ei : zs.getD i 0 = x
      · by_cases ej : zs.getD j 0 = x
        · rw [if_pos ei] at ha
          rw [if_pos ej] at hb
          obtain ⟨k, rfl⟩ : ∃ k : Nat, a = k := by
            rcases List.mem_cons.1 ha with h1 | h1
            · exact ⟨i, h1⟩
            · exact (ro_lt h (by omega) h1).2.2
          exact ro_apart h hij hj ei ej k ha hb
        · rw [if_neg ej] at hb; cases hb
      · rw [if_neg ei] at ha; cases ha
theorem ro_once {zs : List Int} (h : Ans zs) {x : Int} (hx : -1 ≤ x) : (ro zs x).Nodup := ro_nodup h _ x hx (Nat.le_refl _)
theorem ro_all {zs : List Int} (h : Ans zs) : ∀ a : Nat, a < zs.length → (a : Int) ∈ ro zs (-1) := by
  intro a
  induction a using Nat.strongRecOn with
  | ind a ih =>
    intro ha
    have h1 := h.lo a ha
    have h2 := h.hi a ha
    by_cases e : zs.getD a 0 = -1
    · rw [← e]; exact ro_m1 h ha
    · have h3 := ih (zs.getD a 0).toNat (by omega) (by omega)
      exact ro_m2 h (by omega) h3 (by rw [show ((zs.getD a 0).toNat : Int) = zs.getD a 0 by omega]; exact ro_m1 h ha)
theorem ro_len {zs : List Int} (h : Ans zs) {x : Int} (hx : -1 ≤ x) : (ro zs x).length ≤ zs.length := by
  have := nodup_leL (l' := tab zs.length fun j => (j : Int)) (ro_once h hx) (fun a ha => by
    obtain ⟨h1, h2, k, rfl⟩ := ro_lt h hx ha
    simp only [tab, List.mem_map, List.mem_range]
    exact ⟨k, by omega, rfl⟩)
  rwa [tab_length] at this
theorem ro_whole {zs : List Int} (h : Ans zs) : (ro zs (-1)).length = zs.length := by
  refine Nat.le_antisymm (ro_len h (by omega)) ?_
  have hn : (tab zs.length fun j => (j : Int)).Nodup := by
    unfold tab
    unfold List.Nodup
    rw [List.pairwise_map]
    exact List.Pairwise.imp (fun hab e => by omega) List.pairwise_lt_range
  have := nodup_leL hn (l' := ro zs (-1)) (fun a ha => by
    simp only [tab, List.mem_map, List.mem_range] at ha
    obtain ⟨k, hk, rfl⟩ := ha
    exact ro_all h k hk)
  rwa [tab_length] at this
theorem roK_len {zs : List Int} (h : Ans zs) {x : Int} (hx : -1 ≤ x) {m : Nat} (hm : m ≤ zs.length) : (roK zs x m).length ≤ (ro zs x).length := by
  obtain ⟨t, ht⟩ := roK_pre (zs := zs) (x := x) hm
  rw [ro_eq h hx, ht]; simp

/-- Names to which a letter is sent on. -/
def orb (zs : List Int) (i : Int) : Nat → Int
  | 0 => i
  | k + 1 => zs.getD (orb zs i k).toNat 0
def orbL (zs : List Int) (i : Int) (k : Nat) : List Int := tab k (orb zs i)
def okF (n : Nat) (z : Int) : Bool := inR z 0 ((n : Int) - 1)
def fwB (zs : List Int) (i : Int) : Bool := zs.all (okF zs.length) && (decide (zs.length ≤ 9) && okF zs.length i)
structure Fwd (zs : List Int) (i : Int) (L x : Nat) : Prop where
  n9 : zs.length ≤ 9
  cl : ∀ k, k < zs.length → 0 ≤ zs.getD k 0 ∧ zs.getD k 0 < zs.length
  i0 : 0 ≤ i ∧ i < zs.length
  L1 : x < L
  ne : ∀ a b, a < b → b < L → orb zs i a ≠ orb zs i b
  eq : orb zs i L = orb zs i x
theorem orb_in {zs : List Int} {i : Int} (hc : ∀ k, k < zs.length → 0 ≤ zs.getD k 0 ∧ zs.getD k 0 < zs.length) (h0 : 0 ≤ i ∧ i < zs.length) : ∀ k, 0 ≤ orb zs i k ∧ orb zs i k < zs.length := by
  intro k
  induction k with
  | zero => exact h0
  | succ k ih => exact hc _ (by omega)
theorem orbL_nodup {zs : List Int} {i : Int} {L : Nat} (hne : ∀ a b, a < b → b < L → orb zs i a ≠ orb zs i b) : (orbL zs i L).Nodup := by
  unfold orbL tab
  unfold List.Nodup
  rw [List.pairwise_map]
  exact List.Pairwise.imp_of_mem (fun ha hb hab => hne _ _ hab (List.mem_range.1 hb)) List.pairwise_lt_range
theorem orb_few {zs : List Int} {i : Int} (hc : ∀ k, k < zs.length → 0 ≤ zs.getD k 0 ∧ zs.getD k 0 < zs.length) (h0 : 0 ≤ i ∧ i < zs.length) {L : Nat} (hne : ∀ a b, a < b → b < L → orb zs i a ≠ orb zs i b) : L ≤ zs.length := by
  have := nodup_leL (l' := tab zs.length fun j => (j : Int)) (orbL_nodup hne) (fun a ha => by
    simp only [orbL, tab, List.mem_map, List.mem_range] at ha ⊢
    obtain ⟨k, hk, rfl⟩ := ha
    have := orb_in hc h0 k
    exact ⟨(orb zs i k).toNat, by omega, by omega⟩)
  simpa [orbL, tab_length] using this
theorem fw_exists {zs : List Int} {i : Int} (h : fwB zs i = true) : ∃ L x, Fwd zs i L x := by
  simp only [fwB, Bool.and_eq_true, decide_eq_true_eq, List.all_eq_true] at h
  obtain ⟨h1, h2, h3⟩ := h
  have hc : ∀ k, k < zs.length → 0 ≤ zs.getD k 0 ∧ zs.getD k 0 < zs.length := fun k hk => by
    have := inR_iff.1 (h1 _ (List.getElem_mem hk))
    rw [getD_get hk]; omega
  have h0 : 0 ≤ i ∧ i < zs.length := by have := inR_iff.1 h3; omega
  have key : ∀ m : Nat, (∀ a b, a < b → b < m → orb zs i a ≠ orb zs i b) ∨ ∃ L x, Fwd zs i L x := by
    intro m
    induction m with
    | zero => exact .inl (fun a b _ hb => by omega)
    | succ m ih =>
      rcases ih with ih | ih
      · by_cases hx : ∃ x, x < m ∧ orb zs i m = orb zs i x
        · obtain ⟨x, hx, e⟩ := hx
          exact .inr ⟨m, x, h2, hc, h0, hx, ih, e⟩
        · refine .inl fun a b hab hb => ?_
          by_cases e : b = m
          · subst e; exact fun e => hx ⟨a, hab, e.symm⟩
          · exact ih a b hab (by omega)
      · exact .inr ih
  rcases key (zs.length + 1) with h4 | h4
  · have := orb_few hc h0 h4; omega
  · exact h4
/-- What is told of it. -/
def fwC (L x : Nat) : Int := if x + 1 = L then 0 else (L : Int) - x
theorem Fwd.inn {zs : List Int} {i : Int} {L x : Nat} (h : Fwd zs i L x) (k : Nat) : 0 ≤ orb zs i k ∧ orb zs i k < zs.length := orb_in h.cl h.i0 k
theorem Fwd.le {zs : List Int} {i : Int} {L x : Nat} (h : Fwd zs i L x) : L ≤ zs.length := orb_few h.cl h.i0 h.ne
theorem Fwd.fresh {zs : List Int} {i : Int} {L x : Nat} (h : Fwd zs i L x) {k : Nat} (hk : k < L) : orb zs i k ∉ orbL zs i k := fun hm => by
  simp only [orbL, tab, List.mem_map, List.mem_range] at hm
  obtain ⟨a, ha, e⟩ := hm
  exact h.ne a k ha hk e
theorem Fwd.inj {zs : List Int} {i : Int} {L x : Nat} (h : Fwd zs i L x) {a b : Nat} (ha : a < L) (hb : b < L) (e : orb zs i a = orb zs i b) : a = b := by
  rcases Nat.lt_trichotomy a b with h1 | h1 | h1
  · exact absurd e (h.ne a b h1 hb)
  · exact h1
  · exact absurd e.symm (h.ne b a h1 ha)
/-- It stays where the way ends at its last name. -/
theorem Fwd.stays {zs : List Int} {i : Int} {L x : Nat} (h : Fwd zs i L x) : zs.getD (orb zs i L).toNat 0 = orb zs i L ↔ x + 1 = L := by
  have h1 : zs.getD (orb zs i L).toNat 0 = orb zs i (x + 1) := by rw [h.eq]; rfl
  rw [h1]
  constructor
  · intro e
    have hl := h.L1
    by_cases e2 : x + 1 = L
    · exact e2
    · exfalso
      have := h.inj (a := x + 1) (b := x) (by omega) (by omega) (by rw [e, h.eq])
      omega
  · intro e; rw [e]
end Go.Proofs.Ytldbefmiabgkhab
