/- The office of digits, by membership, plain. No condition. -/
import Derived.Test.YtlmcclbikljbhaaQ9
namespace Go.Proofs.Ytlmcclbikljbhaa
open Go.RowKit

theorem lg_spec (rs : List (ByteArray × Int)) (s : ByteArray) (k : Int) (n : Nat) :
    (lg rs s k n = -1 ∧ ∀ i, i < n → (i : Int) ≠ k → bg s (hd rs i) = false) ∨
    ∃ j : Nat, j < n ∧ lg rs s k n = j ∧ (j : Int) ≠ k ∧ bg s (hd rs j) = true ∧ ∀ i, i < n → (i : Int) ≠ k → bg s (hd rs i) = true → (hd rs i).size ≤ (hd rs j).size := by
  induction n with
  | zero => exact .inl ⟨rfl, fun i hi => by omega⟩
  | succ n ih =>
    by_cases hk : (n : Int) = k
    · rw [lg_no (.inl hk)]
      rcases ih with ⟨h1, h2⟩ | ⟨j, hj, h1, h2, h3, h4⟩
      · exact .inl ⟨h1, fun i hi hik => h2 i (by omega) hik⟩
      · exact .inr ⟨j, by omega, h1, h2, h3, fun i hi hik hb => h4 i (by omega) hik hb⟩
    · by_cases hb : bg s (hd rs n) = true
      · by_cases hz : bz rs (lg rs s k n) < (hd rs n).size
        · rw [lg_yes hk hb hz]
          refine .inr ⟨n, by omega, rfl, hk, hb, fun i hi hik hbi => ?_⟩
          by_cases hin : i = n
          · subst hin; exact Nat.le_refl _
          · rcases ih with ⟨h1, h2⟩ | ⟨j, hj, h1, h2, h3, h4⟩
            · rw [h2 i (by omega) hik] at hbi; cases hbi
            · have := h4 i (by omega) hik hbi
              rw [h1, bz_nat] at hz
              omega
        · rw [lg_no (.inr (.inr hz))]
          rcases ih with ⟨h1, h2⟩ | ⟨j, hj, h1, h2, h3, h4⟩
          · exfalso; apply hz; rw [h1]; simp only [bz]; rw [if_pos (by omega)]; omega
          · refine .inr ⟨j, by omega, h1, h2, h3, fun i hi hik hbi => ?_⟩
            by_cases hin : i = n
            · subst hin; rw [h1, bz_nat] at hz; omega
            · exact h4 i (by omega) hik hbi
      · have hb' : bg s (hd rs n) = false := by simpa using hb
        rw [lg_no (.inr (.inl hb'))]
        rcases ih with ⟨h1, h2⟩ | ⟨j, hj, h1, h2, h3, h4⟩
        · refine .inl ⟨h1, fun i hi hik => ?_⟩
          by_cases hin : i = n
          · subst hin; exact hb'
          · exact h2 i (by omega) hik
        · refine .inr ⟨j, by omega, h1, h2, h3, fun i hi hik hbi => ?_⟩
          by_cases hin : i = n
          · subst hin; rw [hb'] at hbi; cases hbi
          · exact h4 i (by omega) hik hbi

/-- The longest head counts. -/
def Off (rs : List (ByteArray × Int)) (s : ByteArray) (v : Int) : Prop :=
  (v = -1 ∧ ∀ r ∈ rs, bg s r.1 = false) ∨ ∃ r ∈ rs, bg s r.1 = true ∧ r.2 = v ∧ ∀ r' ∈ rs, bg s r'.1 = true → r'.1.size ≤ r.1.size
theorem off_of (rs : List (ByteArray × Int)) (s : ByteArray) : Off rs s (ov rs (lg rs s (-1) rs.length)) := by
  have hget : ∀ r ∈ rs, ∃ i, i < rs.length ∧ hd rs i = r.1 ∧ of_ rs i = r.2 := fun r hr => by
    obtain ⟨i, hi, rfl⟩ := List.getElem_of_mem hr
    exact ⟨i, hi, hd_get hi, of_get hi⟩
  rcases lg_spec rs s (-1) rs.length with ⟨h1, h2⟩ | ⟨j, hj, h1, _, h3, h4⟩
  · refine .inl ⟨by rw [h1]; simp [ov], fun r hr => ?_⟩
    obtain ⟨i, hi, he, _⟩ := hget r hr
    rw [← he]; exact h2 i hi (by omega)
  · refine .inr ⟨rs[j], List.getElem_mem hj, by rw [← hd_get hj]; exact h3, by rw [h1, ov_nat, of_get hj], fun r hr hb => ?_⟩
    obtain ⟨i, hi, he, _⟩ := hget r hr
    rw [← he, ← hd_get hj]
    exact h4 i hi (by omega) (by rw [he]; exact hb)

/-- A route that may be. -/
def okRoute (r : ByteArray × Int) : Prop := r.1.size ≤ 4 ∧ 0 ≤ r.2 ∧ r.2 ≤ 9 ∧ onlyD r.1.data.toList = true
theorem routesB_iff {rs : List (ByteArray × Int)} : routesB rs = true ↔ rs.length ≤ 8 ∧ (∀ r ∈ rs, okRoute r) ∧ rs.Pairwise (fun a b => a.1.toList ≠ b.1.toList) := by
  simp only [routesB, Bool.and_eq_true, decide_eq_true_eq, List.all_eq_true, List.mem_range]
  refine and_congr Iff.rfl ⟨fun h => ⟨fun r hr => ?_, ?_⟩, fun ⟨h1, h2⟩ i hi => ?_⟩
  · obtain ⟨i, hi, rfl⟩ := List.getElem_of_mem hr
    have := h i hi
    simp only [okR, Bool.and_eq_true, decide_eq_true_eq, hd_get hi, of_get hi, inR] at this
    exact ⟨this.1.1.1, this.1.1.2.1, this.1.1.2.2, this.1.2⟩
  · rw [List.pairwise_iff_getElem]
    intro i j hi hj hij he
    have := h j hj
    simp only [okR, Bool.and_eq_true, List.all_eq_true, List.mem_range] at this
    have h2 := this.2 i hij
    rw [hd_get hi, hd_get hj, he] at h2
    simp at h2
  · have hr := h1 _ (List.getElem_mem hi)
    simp only [okR, Bool.and_eq_true, decide_eq_true_eq, hd_get hi, of_get hi, inR, List.all_eq_true, List.mem_range]
    refine ⟨⟨⟨hr.1, hr.2.1, hr.2.2.1⟩, hr.2.2.2⟩, fun j hj => ?_⟩
    have := List.pairwise_iff_getElem.1 h2 j i (by omega) hi hj
    rw [hd_get (show j < rs.length by omega)]
    simpa using this
theorem heads_same {rs : List (ByteArray × Int)} (h : rs.Pairwise (fun a b => a.1.toList ≠ b.1.toList)) {r r' : ByteArray × Int} (hr : r ∈ rs) (hr' : r' ∈ rs) (he : r.1.toList = r'.1.toList) : r = r' := by
  obtain ⟨i, hi, rfl⟩ := List.getElem_of_mem hr
  obtain ⟨j, hj, rfl⟩ := List.getElem_of_mem hr'
  rcases Nat.lt_trichotomy i j with hlt | rfl | hlt
  · exact absurd he (List.pairwise_iff_getElem.1 h i j hi hj hlt)
  · rfl
  · exact absurd he.symm (List.pairwise_iff_getElem.1 h j i hj hi hlt)
theorem bg_same {s h h' : ByteArray} (h1 : bg s h = true) (h2 : bg s h' = true) (he : h.size = h'.size) : h.toList = h'.toList := by
  simp only [bg, Bool.and_eq_true, beq_iff_eq] at h1 h2
  rw [← h1.2, ← h2.2, he]
theorem off_unique {rs : List (ByteArray × Int)} (h : rs.Pairwise (fun a b => a.1.toList ≠ b.1.toList)) {s : ByteArray} {v v' : Int} (h1 : Off rs s v) (h2 : Off rs s v') : v = v' := by
  rcases h1 with ⟨rfl, a⟩ | ⟨r, hr, hb, hv, hmax⟩
  · rcases h2 with ⟨rfl, _⟩ | ⟨r', hr', hb', _⟩
    · rfl
    · rw [a r' hr'] at hb'; cases hb'
  · rcases h2 with ⟨rfl, a⟩ | ⟨r', hr', hb', hv', hmax'⟩
    · rw [a r hr] at hb; cases hb
    · have e1 := hmax r' hr' hb'
      have e2 := hmax' r hr hb
      have := heads_same h hr hr' (bg_same hb hb' (by omega))
      rw [← hv, ← hv', this]
theorem off_mem {rs rs' : List (ByteArray × Int)} (h : ∀ r, r ∈ rs ↔ r ∈ rs') {s : ByteArray} {v : Int} (ho : Off rs s v) : Off rs' s v := by
  rcases ho with ⟨rfl, a⟩ | ⟨r, hr, hb, hv, hmax⟩
  · exact .inl ⟨rfl, fun r hr => a r ((h r).2 hr)⟩
  · exact .inr ⟨r, (h r).1 hr, hb, hv, fun r' hr' => hmax r' ((h r').2 hr')⟩
theorem routesB_rev {rs : List (ByteArray × Int)} (h : routesB rs = true) : routesB rs.reverse = true := by
  rw [routesB_iff] at h ⊢
  refine ⟨by rw [List.length_reverse]; exact h.1, fun r hr => h.2.1 r (List.mem_reverse.1 hr), ?_⟩
  rw [List.pairwise_reverse]
  exact h.2.2.imp (fun h => h.symm)
theorem officeP_off {rs : List (ByteArray × Int)} {s : ByteArray} (h : routesB rs = true) (h4 : fourB s = true) : Off rs s (officeP rs s) := by
  rw [officeP, h, h4]; exact off_of rs s
theorem officeP_rev {rs : List (ByteArray × Int)} {s : ByteArray} (h : routesB rs = true) (h4 : fourB s = true) : officeP rs.reverse s = officeP rs s := by
  have hr := routesB_rev h
  have h1 := officeP_off hr h4
  have h2 : Off rs.reverse s (officeP rs s) := off_mem (fun r => by simp) (officeP_off h h4)
  exact off_unique (routesB_iff.1 hr).2.2 h1 h2
theorem officeP_nn {rs : List (ByteArray × Int)} {s : ByteArray} (h : 0 ≤ officeP rs s) : routesB rs = true ∧ fourB s = true := by
  by_cases hc : (routesB rs && fourB s) = true
  · simpa using hc
  · unfold officeP at h; rw [if_neg hc] at h; omega
theorem officeP_found {rs : List (ByteArray × Int)} {s : ByteArray} {q : Int} (h : officeP rs s = q) (hq : 0 ≤ q) : rs.any (fun r => bg s r.1 && r.2 == q) = true := by
  obtain ⟨h1, h2⟩ := officeP_nn (by rw [h]; exact hq)
  rcases officeP_off h1 h2 with ⟨h3, _⟩ | ⟨r, hr, hb, hv, _⟩
  · omega
  · rw [List.any_eq_true]; exact ⟨r, hr, by rw [hb, hv, h]; simp⟩
end Go.Proofs.Ytlmcclbikljbhaa
