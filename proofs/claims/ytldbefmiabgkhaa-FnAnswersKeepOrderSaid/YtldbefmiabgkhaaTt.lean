/- Answers: where they stand, plain. No condition. -/
import Derived.Test.YtldbefmiabgkhaaT0
namespace Go.Proofs.Ytldbefmiabgkhaa
open Go.RowKit

theorem ro_block1 {zs : List Int} (h : Ans zs) {k : Nat} (hk : k < zs.length) : ∃ P Q, ro zs (zs.getD k 0) = P ++ ((k : Int) :: ro zs k) ++ Q := by
  obtain ⟨t, ht⟩ := roK_pre (zs := zs) (x := zs.getD k 0) (m := k + 1) (n := zs.length) hk
  refine ⟨roK zs (zs.getD k 0) k, t, ?_⟩
  rw [ro_eq h (h.lo k hk), ht, roK_next rfl]
  simp
theorem ro_block {zs : List Int} (h : Ans zs) : ∀ k : Nat, k < zs.length → ∃ P Q, ro zs (-1) = P ++ ((k : Int) :: ro zs k) ++ Q := by
  intro k
  induction k using Nat.strongRecOn with
  | ind k ih =>
    intro hk
    obtain ⟨P, Q, e⟩ := ro_block1 h hk
    have h1 := h.lo k hk
    have h2 := h.hi k hk
    by_cases hz : zs.getD k 0 = -1
    · rw [hz] at e; exact ⟨P, Q, e⟩
    · obtain ⟨P', Q', e'⟩ := ih (zs.getD k 0).toNat (by omega) (by omega)
      rw [show ((zs.getD k 0).toNat : Int) = zs.getD k 0 by omega, e] at e'
      exact ⟨P' ++ zs.getD k 0 :: P, Q ++ Q', by rw [e']; simp⟩
theorem getD_mid {P L Q : List Int} {j : Nat} (hj : j < L.length) : (P ++ L ++ Q).getD (P.length + j) 0 = L.getD j 0 := by
  rw [getD_get (by simp; omega), getD_get hj, List.getElem_append_left (by simp; omega), List.getElem_append_right (by omega)]
  simp
theorem nodup_at {l : List Int} (h : l.Nodup) {i j : Nat} (hi : i < l.length) (hj : j < l.length) (e : l.getD i 0 = l.getD j 0) : i = j := by
  rw [getD_get hi, getD_get hj] at e
  exact (List.getElem_inj h).1 e
/-- A letter is read behind that to which it is an answer. -/
theorem ro_before {zs : List Int} (h : Ans zs) {k v : Nat} (hk : k < zs.length) (hv : (ro zs (-1)).getD k 0 = (v : Int)) (hz : 0 ≤ zs.getD v 0) : ∃ K, K < k ∧ (ro zs (-1)).getD K 0 = zs.getD v 0 ∧ ∀ j, j < K → (ro zs (-1)).getD j 0 ≠ zs.getD v 0 := by
  have hn := ro_once h (x := -1) (by omega)
  have hl := ro_whole h
  have hvm : (v : Int) ∈ ro zs (-1) := by rw [← hv, getD_get (by omega)]; exact List.getElem_mem _
  have hvl := ro_lt h (by omega) hvm
  have hv2 : v < zs.length := by omega
  have hhi := h.hi v hv2
  obtain ⟨t, ht⟩ : ∃ t : Nat, zs.getD v 0 = t := ⟨(zs.getD v 0).toNat, by omega⟩
  rw [ht]
  obtain ⟨P, Q, e⟩ := ro_block h t (by omega)
  have hlen : P.length + 1 + (ro zs t).length ≤ (ro zs (-1)).length := by rw [e]; simp; omega
  have h0 : (ro zs (-1)).getD P.length 0 = (t : Int) := by
    have := getD_mid (P := P) (L := (t : Int) :: ro zs t) (Q := Q) (j := 0) (by simp)
    rw [← e] at this
    simpa using this
  have hin : (v : Int) ∈ ro zs t := by rw [← ht]; exact ro_m1 h hv2
  obtain ⟨m, hm, em⟩ := List.getElem_of_mem hin
  have h1 : (ro zs (-1)).getD (P.length + (m + 1)) 0 = (v : Int) := by
    have := getD_mid (P := P) (L := (t : Int) :: ro zs t) (Q := Q) (j := m + 1) (by simp; omega)
    rw [← e] at this
    rw [this, getD_get (by simp; omega)]
    simpa using em
  have hkk : k = P.length + (m + 1) := nodup_at hn (by omega) (by omega) (by rw [hv, h1])
  refine ⟨P.length, by omega, h0, fun j hj e2 => ?_⟩
  have := nodup_at hn (by omega) (by omega) (e2.trans h0.symm)
  omega

/-- From letter to letter it grows by at most one. -/
def Adj (d : Int → Int) (l : List Int) : Prop := ∀ i, i + 1 < l.length → d (l.getD (i + 1) 0) ≤ d (l.getD i 0) + 1
theorem Adj.app {d : Int → Int} {a b : List Int} (ha : Adj d a) (hb : Adj d b) (h : a ≠ [] → b ≠ [] → d (b.getD 0 0) ≤ d (a.getD (a.length - 1) 0) + 1) : Adj d (a ++ b) := by
  intro i hi
  rw [List.length_append] at hi
  by_cases h1 : i + 1 < a.length
  · have e1 : (a ++ b).getD (i + 1) 0 = a.getD (i + 1) 0 := by rw [getD_get (by simp; omega), getD_get h1, List.getElem_append_left]
    have e2 : (a ++ b).getD i 0 = a.getD i 0 := by rw [getD_get (by simp; omega), getD_get (by omega), List.getElem_append_left]
    rw [e1, e2]; exact ha i h1
  · have e1 : (a ++ b).getD (i + 1) 0 = b.getD (i + 1 - a.length) 0 := by rw [getD_get (by simp; omega), getD_get (by omega), List.getElem_append_right (by omega)]
    rw [e1]
    by_cases h2 : i < a.length
    · have e2 : (a ++ b).getD i 0 = a.getD i 0 := by rw [getD_get (by simp; omega), getD_get h2, List.getElem_append_left]
      rw [e2, show i + 1 - a.length = 0 by omega, show i = a.length - 1 by omega]
      exact h (fun e => by rw [e] at h2; simp at h2) (fun e => by rw [e] at hi; simp at hi; omega)
    · have e2 : (a ++ b).getD i 0 = b.getD (i - a.length) 0 := by rw [getD_get (by simp; omega), getD_get (by omega), List.getElem_append_right (by omega)]
      rw [e2, show i + 1 - a.length = (i - a.length) + 1 by omega]
      exact hb _ (by omega)
def dI (zs : List Int) (a : Int) : Int := dv zs a.toNat
structure Deep (zs : List Int) (D : Int) (l : List Int) : Prop where
  ad : Adj (dI zs) l
  ge : ∀ a ∈ l, D + 1 ≤ dI zs a
  hd : l ≠ [] → dI zs (l.getD 0 0) = D + 1
theorem deep_ro {zs : List Int} (h : Ans zs) : ∀ (f : Nat) (x D : Int), -1 ≤ x → ((zs.length : Int) - x).toNat ≤ f → (∀ k, k < zs.length → zs.getD k 0 = x → dv zs k = D + 1) → Deep zs D (ro zs x) := by
  intro f
  induction f with
  | zero =>
    intro x D hx hf _
    have : ro zs x = [] := by
      rw [List.eq_nil_iff_forall_not_mem]
      intro a ha
      have := ro_lt h hx ha; omega
    rw [this]
    exact ⟨fun i hi => by simp at hi, by simp, fun h => absurd rfl h⟩
  | succ f ih =>
    intro x D hx hf hD
    rw [ro_eq h hx]
    have key : ∀ m, m ≤ zs.length → Deep zs D (roK zs x m) := by
      intro m
      induction m with
      | zero => intro _; exact ⟨fun i hi => by simp [roK_zero] at hi, by simp [roK_zero], fun h => absurd (roK_zero zs x) h⟩
      | succ m ihm =>
        intro hm
        have h1 := ihm (by omega)
        by_cases hz : zs.getD m 0 = x
        · have hh := h.hi m (by omega)
          have hdm := hD m (by omega) hz
          have h2 := ih (m : Int) (D + 1) (by omega) (by omega) (fun k hk hkz => by rw [dv_step h hk hkz, hdm])
          have hB : Deep zs D ((m : Int) :: ro zs m) := by
            refine ⟨?_, ?_, fun _ => by simpa [dI] using hdm⟩
            · rw [show (m : Int) :: ro zs m = [(m : Int)] ++ ro zs m from rfl]
              refine Adj.app (fun i hi => by simp at hi) h2.ad (fun _ hne => ?_)
              rw [h2.hd hne]
              simp only [List.length_singleton, Nat.sub_self]
              have : dI zs ([(m : Int)].getD 0 0) = D + 1 := by simpa [dI] using hdm
              rw [this]; omega
            · intro a ha
              rcases List.mem_cons.1 ha with rfl | ha
              · simp only [dI, Int.toNat_natCast]; omega
              · have := h2.ge a ha; omega
          rw [roK_next hz, show roK zs x m ++ [(m : Int)] ++ ro zs m = roK zs x m ++ ((m : Int) :: ro zs m) by simp]
          refine ⟨Adj.app h1.ad hB.ad (fun hne _ => ?_), ?_, fun _ => ?_⟩
          · have hpos : 0 < (roK zs x m).length := List.length_pos_iff.2 hne
            have h3 := h1.ge ((roK zs x m).getD ((roK zs x m).length - 1) 0) (by rw [getD_get (by omega)]; exact List.getElem_mem _)
            rw [hB.hd (by simp)]; omega
          · intro a ha
            rcases List.mem_append.1 ha with ha | ha
            · exact h1.ge a ha
            · exact hB.ge a ha
          · by_cases hne : roK zs x m = []
            · rw [hne, List.nil_append]; exact hB.hd (by simp)
            · have hpos : 0 < (roK zs x m).length := List.length_pos_iff.2 hne
              have e : (roK zs x m ++ (m : Int) :: ro zs m).getD 0 0 = (roK zs x m).getD 0 0 := by rw [getD_get (by rw [List.length_append]; omega), getD_get hpos]; exact List.getElem_append_left hpos
              rw [e]; exact h1.hd hne
        · rw [roK_same hz]; exact h1
    exact key zs.length (Nat.le_refl _)
theorem deep_all {zs : List Int} (h : Ans zs) : Deep zs (-1) (ro zs (-1)) := deep_ro h _ (-1) (-1) (by omega) (Nat.le_refl _) (fun k _ hz => by rw [dv_root (by omega)]; omega)

/-- Below a letter, itself too. -/
def bel (zs : List Int) (i k : Nat) : Bool := decide ((k : Int) ∈ (i : Int) :: ro zs i)
theorem bel_step {zs : List Int} (h : Ans zs) {i k : Nat} (hk : k < zs.length) : bel zs i k = (decide (k = i) || (decide (0 ≤ zs.getD k 0) && bel zs i (zs.getD k 0).toNat)) := by
  rw [Bool.eq_iff_iff]
  simp only [bel, decide_eq_true_eq, Bool.or_eq_true, Bool.and_eq_true, List.mem_cons]
  constructor
  · rintro (h1 | h1)
    · left; omega
    · right
      have h2 := ro_m3 h (by omega) h1
      have h3 : 0 ≤ zs.getD k 0 := by
        rcases h2 with h2 | h2
        · omega
        · have := ro_lt h (by omega) h2; omega
      refine ⟨h3, ?_⟩
      rw [show ((zs.getD k 0).toNat : Int) = zs.getD k 0 by omega]
      exact h2
  · rintro (h1 | ⟨h1, h2⟩)
    · left; omega
    · right
      rw [show ((zs.getD k 0).toNat : Int) = zs.getD k 0 by omega] at h2
      rcases h2 with h2 | h2
      · rw [← h2]; exact ro_m1 h hk
      · exact ro_m2 h (by omega) h2 (ro_m1 h hk)
def belC (zs : List Int) (i m : Nat) : Nat := ((List.range m).filter (bel zs i)).length
theorem belC_succ (zs : List Int) (i m : Nat) : belC zs i (m + 1) = belC zs i m + if bel zs i m then 1 else 0 := by
  unfold belC
  rw [List.range_succ, List.filter_append, List.length_append]
  congr 1
  by_cases e : bel zs i m = true
  · simp [e]
  · simp [e]
theorem belC_all {zs : List Int} (h : Ans zs) {i : Nat} (hi : i < zs.length) : belC zs i zs.length = (ro zs i).length + 1 := by
  have e : belC zs i zs.length = (((List.range zs.length).filter (bel zs i)).map (fun k : Nat => (k : Int))).length := by rw [List.length_map]; rfl
  rw [e, show (ro zs i).length + 1 = ((i : Int) :: ro zs i).length from rfl]
  refine ((List.perm_ext_iff_of_nodup ?_ ?_).2 (fun a => ?_)).length_eq
  · unfold List.Nodup
    rw [List.pairwise_map]
    exact List.Pairwise.imp (fun hab e => by omega) (List.Pairwise.filter _ List.pairwise_lt_range)
  · exact List.nodup_cons.2 ⟨fun hh => by have := ro_lt h (by omega) hh; omega, ro_once h (by omega)⟩
  · simp only [List.mem_map, List.mem_filter, List.mem_range, bel, decide_eq_true_eq]
    constructor
    · rintro ⟨k, ⟨_, h2⟩, rfl⟩; exact h2
    · intro ha
      obtain ⟨k, rfl⟩ : ∃ k : Nat, a = k := by
        rcases List.mem_cons.1 ha with h1 | h1
        · exact ⟨i, h1⟩
        · exact (ro_lt h (by omega) h1).2.2
      refine ⟨k, ⟨?_, ha⟩, rfl⟩
      rcases List.mem_cons.1 ha with h1 | h1
      · omega
      · have := ro_lt h (by omega) h1; omega
/-- Where a letter stands, and what stands behind it. -/
theorem ro_stands {zs : List Int} (h : Ans zs) {i : Nat} (hi : i < zs.length) : ∃ K, K + belC zs i zs.length ≤ zs.length ∧ (ro zs (-1)).getD K 0 = (i : Int) ∧ (∀ j, j < K → (ro zs (-1)).getD j 0 ≠ (i : Int)) ∧ ∀ x, K ≤ x → x < K + belC zs i zs.length → ∃ v : Nat, v < zs.length ∧ (ro zs (-1)).getD x 0 = (v : Int) ∧ bel zs i v = true := by
  obtain ⟨P, Q, e⟩ := ro_block h i hi
  have hn := ro_once h (x := -1) (by omega)
  have hl := ro_whole h
  have hc := belC_all h hi
  have hlen : P.length + 1 + (ro zs i).length ≤ (ro zs (-1)).length := by rw [e]; simp; omega
  have hat : ∀ j, j < (ro zs i).length + 1 → (ro zs (-1)).getD (P.length + j) 0 = ((i : Int) :: ro zs i).getD j 0 := fun j hj => by
    have := getD_mid (P := P) (L := (i : Int) :: ro zs i) (Q := Q) (j := j) (by simpa using hj)
    rw [← e] at this; exact this
  have h0 : (ro zs (-1)).getD P.length 0 = (i : Int) := by have := hat 0 (by omega); simpa using this
  refine ⟨P.length, by omega, h0, fun j hj e2 => ?_, fun x h1 h2 => ?_⟩
  · have := nodup_at hn (by omega) (by omega) (e2.trans h0.symm)
    omega
  · have h3 := hat (x - P.length) (by omega)
    rw [show P.length + (x - P.length) = x by omega] at h3
    have hm : (ro zs (-1)).getD x 0 ∈ (i : Int) :: ro zs i := by rw [h3, getD_get (by simp; omega)]; exact List.getElem_mem _
    obtain ⟨v, hv⟩ : ∃ v : Nat, (ro zs (-1)).getD x 0 = v := by
      rcases List.mem_cons.1 hm with h4 | h4
      · exact ⟨i, h4⟩
      · exact (ro_lt h (by omega) h4).2.2
    refine ⟨v, ?_, hv, ?_⟩
    · rw [hv] at hm
      rcases List.mem_cons.1 hm with h4 | h4
      · omega
      · have := ro_lt h (by omega) h4; omega
    · rw [bel, decide_eq_true_eq, ← hv]; exact hm
end Go.Proofs.Ytldbefmiabgkhaa
