/- Stamps: what the laws say, plain. No condition. -/
import Derived.Test.YtookdmdlpglbcabY0
namespace Go.Proofs.Ytookdmdlpglbcab
open Go.RowKit

/-! ### the greatest first -/
theorem gFold_shift (l : List Int) : ∀ (a r : Int), l.foldl gStep (a, r) = (a + (l.foldl gStep (0, r)).1, (l.foldl gStep (0, r)).2) := by
  induction l with
  | nil => intro a r; simp
  | cons s l ih =>
    intro a r
    rw [List.foldl_cons, List.foldl_cons, gStep, gStep, ih (a + r / s), ih (0 + r / s)]
    simp only [Prod.mk.injEq, and_true]
    omega
theorem gFold_snoc (u : List Int) (m r : Int) : gFold (u ++ [m]) r = (r / m + (gFold u (r % m)).1, (gFold u (r % m)).2) := by
  rw [gFold, List.reverse_append, List.reverse_singleton, List.singleton_append, List.foldl_cons, gStep, gFold_shift]
  simp [gFold]
theorem gFold_small (u : List Int) {m r : Int} (h0 : 0 ≤ r) (h : r < m) : gFold (u ++ [m]) r = gFold u r := by
  rw [gFold_snoc, Int.ediv_eq_zero_of_lt h0 h, Int.emod_eq_of_lt h0 h]; simp
theorem gFold_big (u : List Int) {m r : Int} (hm : 0 < m) : gFold (u ++ [m]) r = ((gFold (u ++ [m]) (r - m)).1 + 1, (gFold (u ++ [m]) (r - m)).2) := by
  have e1 : r / m = (r - m) / m + 1 := by
    have : r = (r - m) + m * 1 := by omega
    rw [this, Int.add_mul_ediv_left _ _ (by omega)]; simp
  have e2 : r % m = (r - m) % m := by
    have : r = (r - m) + m * 1 := by omega
    rw [this, Int.add_mul_emod_self_left]; simp
  rw [gFold_snoc, gFold_snoc, e1, e2]
  simp only [Prod.mk.injEq, and_true]
  omega
theorem gr_big (u : List Int) {m r : Int} (hm : 0 < m) (h0 : 0 ≤ gr (u ++ [m]) (r - m)) : gr (u ++ [m]) r = gr (u ++ [m]) (r - m) + 1 := by
  unfold gr at h0 ⊢
  rw [gFold_big u hm]
  split at h0
  · omega
  · rename_i h1; rw [if_neg h1]; rw [if_neg h1]
theorem gr_small (u : List Int) {m r : Int} (h0 : 0 ≤ r) (h : r < m) : gr (u ++ [m]) r = gr u r := by
  unfold gr; rw [gFold_small u h0 h]
theorem gFold_pos {v : List Int} (hp : ∀ s ∈ v, 1 ≤ s) : ∀ {r : Int}, 0 ≤ r → 0 ≤ (gFold v r).1 ∧ 0 ≤ (gFold v r).2 ∧ (gFold v r).1 + (gFold v r).2 ≤ r := by
  suffices ∀ (l : List Int), (∀ s ∈ l, 1 ≤ s) → ∀ {r : Int}, 0 ≤ r → 0 ≤ (l.foldl gStep (0, r)).1 ∧ 0 ≤ (l.foldl gStep (0, r)).2 ∧ (l.foldl gStep (0, r)).1 + (l.foldl gStep (0, r)).2 ≤ r from fun {r} h => this v.reverse (fun s hs => hp s (by simpa using hs)) h
  intro l
  induction l with
  | nil => intro _ r h; simp; exact h
  | cons s l ih =>
    intro hp r h
    have hs := hp s (by simp)
    rw [List.foldl_cons, gStep, gFold_shift]
    have h1 : 0 ≤ r % s := Int.emod_nonneg _ (by omega)
    have h2 : 0 ≤ r / s := Int.ediv_nonneg h (by omega)
    obtain ⟨i1, i2, i3⟩ := ih (fun t ht => hp t (by simp [ht])) h1
    have h3 : s * (r / s) + r % s = r := Int.mul_ediv_add_emod r s
    have h4 : 1 * (r / s) ≤ s * (r / s) := Int.mul_le_mul_of_nonneg_right hs h2
    refine ⟨?_, i2, ?_⟩
    · show 0 ≤ 0 + r / s + (l.foldl gStep (0, r % s)).1; omega
    · show 0 + r / s + (l.foldl gStep (0, r % s)).1 + (l.foldl gStep (0, r % s)).2 ≤ r; omega

theorem fw_more {v : List Int} (hp : ∀ s ∈ v, 1 ≤ s) {s : Int} (hs : s ∈ v) {q : Nat} (hq : 0 ≤ fw v q) : ∀ k : Nat, 0 ≤ fw v (q + k * s.toNat) ∧ fw v (q + k * s.toNat) ≤ fw v q + k
  | 0 => by simp [hq]
  | k + 1 => by
    obtain ⟨h1, h2⟩ := fw_more hp hs hq k
    have hs1 := hp s hs
    have e : q + (k + 1) * s.toNat - s.toNat = q + k * s.toNat := by rw [Nat.add_mul]; omega
    have h3 := fw_le hp hs (r := q + (k + 1) * s.toNat) (by rw [Nat.add_mul]; omega) (by rw [e]; exact h1)
    rw [e] at h3
    omega
theorem fold_fw {v : List Int} (hp : ∀ s ∈ v, 1 ≤ s) : ∀ (l : List Int), (∀ s ∈ l, s ∈ v) → ∀ (r : Nat), 0 ≤ fw v (l.foldl gStep (0, (r : Int))).2.toNat → 0 ≤ fw v r ∧ fw v r ≤ fw v (l.foldl gStep (0, (r : Int))).2.toNat + (l.foldl gStep (0, (r : Int))).1 := by
  intro l
  induction l with
  | nil => intro _ r h; simp at h ⊢; exact h
  | cons s l ih =>
    intro hl r h
    have hs := hl s (by simp)
    have hs1 := hp s hs
    rw [List.foldl_cons, gStep, gFold_shift] at h ⊢
    simp only at h ⊢
    have h1 : 0 ≤ (r : Int) % s := Int.emod_nonneg _ (by omega)
    have h2 : 0 ≤ (r : Int) / s := Int.ediv_nonneg (by omega) (by omega)
    obtain ⟨a, ha⟩ := Int.eq_ofNat_of_zero_le h2
    obtain ⟨b, hb⟩ := Int.eq_ofNat_of_zero_le h1
    have h3 : s * ((r : Int) / s) + (r : Int) % s = r := Int.mul_ediv_add_emod _ s
    rw [ha, hb] at h3
    rw [hb] at h ⊢
    rw [ha]
    obtain ⟨i1, i2⟩ := ih (fun t ht => hl t (by simp [ht])) b h
    have hr : r = b + a * s.toNat := by
      have e : ((a * s.toNat : Nat) : Int) = s * a := by rw [Int.natCast_mul, Int.toNat_of_nonneg (by omega), Int.mul_comm]
      omega
    have := fw_more hp hs i1 a
    rw [← hr] at this
    omega
theorem gr_ge {v : List Int} (hp : ∀ s ∈ v, 1 ≤ s) (r : Nat) (h : 0 ≤ gr v r) : 0 ≤ fw v r ∧ fw v r ≤ gr v r := by
  have h0 := gFold_pos hp (r := (r : Int)) (by omega)
  have hf := fold_fw hp v.reverse (fun s hs => by simpa using hs) r
  unfold gr at h ⊢
  split at h
  · omega
  · rename_i h1
    have : (gFold v (r : Int)).2.toNat = 0 := by omega
    rw [if_neg h1]
    rw [gFold] at this ⊢
    rw [this, fw_zero] at hf
    have := hf (by omega)
    omega
theorem gr_bd {v : List Int} (hp : ∀ s ∈ v, 1 ≤ s) {r : Int} (h : 0 ≤ r) : -1 ≤ gr v r ∧ gr v r ≤ r := by
  have h0 := gFold_pos hp h
  unfold gr
  split <;> omega

/-! ### the first waste -/
theorem gr_one (u : List Int) (hp : ∀ s ∈ (1 : Int) :: u, 1 ≤ s) {r : Int} (h : 0 ≤ r) : 0 ≤ gr (1 :: u) r := by
  have h0 := gFold_pos hp h
  have : (gFold (1 :: u) r).2 = 0 := by
    rw [gFold, List.reverse_cons, List.foldl_append]
    simp [gStep]
  unfold gr
  rw [this]; simp; exact h0.1
theorem gr_single (r : Int) : gr [1] r = r := by
  simp [gr, gFold, gStep]
theorem waste_low {v : List Int} (hv : stampsB v = true) (h1 : v.getD 0 0 = 1) {x : Nat} (hx : gr v x ≠ fw v x) (hl : ∀ j : Nat, j < x → gr v j = fw v j) : 2 < v.length ∧ (x : Int) < v.getD (v.length - 1) 0 + v.getD (v.length - 2) 0 := by
  have hp : ∀ s ∈ v, 1 ≤ s := fun s hs => (stamp_mem hv hs).1
  obtain ⟨hlen1, hlen4⟩ := stampsB_len hv
  obtain ⟨u, hu⟩ : ∃ u, v = 1 :: u := by
    cases v with
    | nil => simp at hlen1
    | cons a u => simp at h1; exact ⟨u, by rw [h1]⟩
  have hg : ∀ r : Nat, 0 ≤ gr v r := fun r => by rw [hu] at hp ⊢; exact gr_one u hp (by omega)
  have hge := fun r : Nat => gr_ge hp r (hg r)
  have hx0 : 0 < x := by
    rcases Nat.eq_zero_or_pos x with h | h
    · subst h
      exfalso; apply hx
      have := gr_bd hp (r := 0) (by omega)
      have h2 := hg 0
      have h3 : gr v ((0 : Nat) : Int) = gr v 0 := rfl
      rw [h3] at h2 ⊢
      rw [fw_zero]; omega
    · exact h
  by_cases hn1 : v.length = 1
  · exfalso
    have hv1 : v = [1] := by
      rw [hu] at hn1 ⊢
      simp at hn1; rw [hn1]
    have h2 := hge x
    have h3 := fw_ge hp (m := 1) (fun s hs => by rw [hv1] at hs; simp at hs; omega) x h2.1
    have h4 : gr v (x : Int) = x := by rw [hv1]; exact gr_single _
    omega
  -- the greatest stamp, and those below
  obtain ⟨w, m, hw⟩ : ∃ w m, v = w ++ [m] := by
    have hne : v ≠ [] := by intro e; rw [e] at hlen1; simp at hlen1
    exact ⟨v.dropLast, v.getLast hne, (List.dropLast_concat_getLast hne).symm⟩
  have hwl : v.length = w.length + 1 := by rw [hw]; simp
  have hm : v.getD (v.length - 1) 0 = m := by rw [hw]; simp [List.getD]
  have hpl : v.getD (v.length - 2) 0 = w.getD (w.length - 1) 0 := by
    rw [hw]; simp only [List.length_append, List.length_singleton, List.getD]
    rw [List.getElem?_append_left (by omega)]; rfl
  have hmv : m ∈ v := by rw [hw]; simp
  have hm1 := hp m hmv
  have hsm : ∀ s ∈ w, s ≤ v.getD (v.length - 2) 0 ∧ s < m := by
    intro s hs
    obtain ⟨i, hi, rfl⟩ := List.getElem_of_mem hs
    have ei : v[i]'(by omega) = w[i] := by simp [hw, List.getElem_append_left hi]
    have eb : v.getD (v.length - 2) 0 = v[v.length - 2]'(by omega) := getD_get (by omega)
    have em : v[v.length - 1]'(by omega) = m := by rw [← getD_get (by omega)]; exact hm
    have h2 : v[i]'(by omega) < v[v.length - 1]'(by omega) := by
      have := stamp_lt hv (v.length - 1 - i - 1) i (by omega)
      have e : i + (v.length - 1 - i - 1 + 1) = v.length - 1 := by omega
      simpa only [e] using this
    refine ⟨?_, by omega⟩
    rw [eb]
    by_cases hi2 : i = v.length - 2
    · have : v[v.length - 2]'(by omega) = v[i]'(by omega) := by simp only [hi2]
      omega
    · have := stamp_lt hv (v.length - 2 - i - 1) i (by omega)
      have e : i + (v.length - 2 - i - 1 + 1) = v.length - 2 := by omega
      have h3 : v[i]'(by omega) < v[v.length - 2]'(by omega) := by simpa only [e] using this
      omega
  have hbig : ∀ r : Nat, m ≤ r → gr v r = gr v ((r - m.toNat : Nat) : Int) + 1 := by
    intro r hr
    have e : ((r - m.toNat : Nat) : Int) = (r : Int) - m := by omega
    have := hg (r - m.toNat)
    rw [e] at this ⊢
    rw [hw] at this ⊢
    exact gr_big w (by omega) this
  have hlow : (x : Int) < v.getD (v.length - 1) 0 + v.getD (v.length - 2) 0 := by
    rw [hm]
    rcases Int.lt_or_le (x : Int) (m + v.getD (v.length - 2) 0) with h | h
    · exact h
    · exfalso
      have hp0 : 1 ≤ v.getD (v.length - 2) 0 := by
        rw [getD_get (show v.length - 2 < v.length by omega)]; exact (stamp_in hv _).1
      have hb := hbig x (by omega)
      rw [hl (x - m.toNat) (by omega)] at hb
      obtain ⟨s, hs, hs1, hs2, hs3⟩ := fw_from hp hx0 (hge x).1
      have hsp := hp s hs
      rw [hw] at hs
      rcases List.mem_append.1 hs with hs' | hs'
      · obtain ⟨h5, h6⟩ := hsm s hs'
        have hb2 := hbig (x - s.toNat) (by omega)
        rw [hl (x - s.toNat) (by omega), hl (x - s.toNat - m.toNat) (by omega)] at hb2
        have e : x - s.toNat - m.toNat = x - m.toNat - s.toNat := by omega
        rw [e] at hb2
        have h7 := (hge (x - m.toNat - s.toNat)).1
        have h8 := fw_le hp (s := s) (r := x - m.toNat) (by rw [hw]; exact hs) (by omega) h7
        have h9 := hge x
        apply hx
        omega
      · simp at hs'
        subst hs'
        apply hx; omega
  refine ⟨?_, hlow⟩
  rcases Nat.lt_or_ge 2 v.length with h | h
  · exact h
  · exfalso
    have hl2 : w.length = 1 := by omega
    have hw1 : w = [1] := by
      have : w.length = 1 := hl2
      match w, this with
      | [a], _ =>
        rw [hw] at hu
        simp at hu
        rw [hu.1]
    rw [hm, hpl, hw1] at hlow
    have e1 : ([1] : List Int).getD (([1] : List Int).length - 1) 0 = 1 := rfl
    rw [e1] at hlow
    have h9 := hge x
    have hm12 := stamp_mem hv hmv
    by_cases hxm : (x : Int) = m
    · have hb := hbig x (by omega)
      rw [hl (x - m.toNat) (by omega)] at hb
      have : x - m.toNat = 0 := by omega
      rw [this, fw_zero] at hb
      obtain ⟨s, hs, hs1, hs2, hs3⟩ := fw_from hp hx0 h9.1
      apply hx; omega
    · obtain ⟨s, hs, hs1, hs2, hs3⟩ := fw_from hp hx0 h9.1
      rw [hw, hw1] at hs
      have hs' : s = 1 := by
        simp at hs
        omega
      subst hs'
      have e2 : ∀ r : Nat, (r : Int) < m → gr v r = r := fun r hr => by
        rw [hw, hw1, gr_small [1] (by omega) hr, gr_single _]
      have e3 : fw v (x - (1 : Int).toNat) = ((x - 1 : Nat) : Int) := by
        have : (1 : Int).toNat = 1 := rfl
        rw [this, ← hl (x - 1) (by omega), e2 _ (by omega)]
      rw [e3] at hs3
      apply hx
      rw [e2 x (by omega)]
      omega

/-! ### reach -/
theorem good_more {v : List Int} {a b : Int} (h : a ≤ b) {r : Nat} (hg : goodR v a r = true) : goodR v b r = true := by
  simp only [goodR, decide_eq_true_eq] at hg ⊢; omega
theorem IsReach.mono {v : List Int} {m n : Int} {a b : Nat} (ha : IsReach v m a) (hb : IsReach v n b) (h : m ≤ n) : a ≤ b := by
  rcases Nat.lt_or_ge b a with h' | h'
  · have := good_more h (ha.1 (b + 1) (by omega) (by omega))
    rw [hb.2] at this; cases this
  · exact h'
/-- More kinds. -/
theorem fw_kinds {u v : List Int} (hp : ∀ s ∈ v, 1 ≤ s) (hs : ∀ s ∈ u, s ∈ v) : ∀ r : Nat, 0 ≤ fw u r → 0 ≤ fw v r ∧ fw v r ≤ fw u r := by
  have hpu : ∀ s ∈ u, 1 ≤ s := fun s h => hp s (hs s h)
  intro r
  induction r using Nat.strongRecOn with
  | _ r ih =>
    intro h
    by_cases hr : r = 0
    · subst hr; rw [fw_zero, fw_zero]; omega
    · obtain ⟨s, h0, h1, h2, h3⟩ := fw_from hpu (by omega) h
      have hs1 := hpu s h0
      have hi := ih (r - s.toNat) (by omega) h2
      have := fw_le hp (hs s h0) h1 hi.1
      omega
theorem reach_kinds {u v : List Int} (hp : ∀ s ∈ v, 1 ≤ s) (hs : ∀ s ∈ u, s ∈ v) {m : Int} {a b : Nat} (ha : IsReach u m a) (hb : IsReach v m b) : a ≤ b := by
  rcases Nat.lt_or_ge b a with h' | h'
  · have := ha.1 (b + 1) (by omega) (by omega)
    simp only [goodR, decide_eq_true_eq] at this
    have hk := fw_kinds hp hs (b + 1) this.1
    have hn := hb.2
    simp only [goodR, decide_eq_false_iff_not] at hn
    omega
  · exact h'

/-! ### twice the value -/
theorem fw_twice {v : List Int} (hp : ∀ s ∈ v, 1 ≤ s) : ∀ r : Nat, fw (v.map (2 * ·)) (2 * r) = fw v r := by
  have hpd : ∀ s ∈ v.map (2 * ·), 1 ≤ s := by
    intro s hs
    obtain ⟨t, ht, rfl⟩ := List.mem_map.1 hs
    have := hp t ht
    show 1 ≤ 2 * t; omega
  intro r
  induction r using Nat.strongRecOn with
  | _ r ih =>
    cases r with
    | zero => rfl
    | succ n =>
      have e : 2 * (n + 1) = (2 * n + 1) + 1 := by omega
      rw [e, fw_succ _ _ hpd, fw_succ _ _ hp, List.foldl_map]
      refine foldl_cong (fun x s hs => ?_) _
      have hs1 := hp s hs
      unfold stepS
      by_cases hle : s ≤ ((n + 1 : Nat) : Int)
      · have e2 : 2 * n + 1 + 1 - (2 * s).toNat = 2 * (n + 1 - s.toNat) := by omega
        have h2 : 2 * s ≤ ((2 * n + 1 + 1 : Nat) : Int) := by omega
        rw [e2, ih (n + 1 - s.toNat) (by omega)]
        simp only [hle, h2, true_and]
      · have h2 : ¬ 2 * s ≤ ((2 * n + 1 + 1 : Nat) : Int) := by omega
        simp only [hle, h2, false_and, if_false]
theorem fw_odd {v : List Int} (hp : ∀ s ∈ v, 1 ≤ s) : ∀ r : Nat, fw (v.map (2 * ·)) (2 * r + 1) = -1 := by
  have hpd : ∀ s ∈ v.map (2 * ·), 1 ≤ s := by
    intro s hs
    obtain ⟨t, ht, rfl⟩ := List.mem_map.1 hs
    have := hp t ht
    show 1 ≤ 2 * t; omega
  intro r
  induction r using Nat.strongRecOn with
  | _ r ih =>
    rcases Int.lt_or_le (fw (v.map (2 * ·)) (2 * r + 1)) 0 with h | h
    · have := (fw_bd _ hpd (2 * r + 1)).1; omega
    · exfalso
      obtain ⟨s, h0, h1, h2, h3⟩ := fw_from hpd (by omega) h
      obtain ⟨t, ht, rfl⟩ := List.mem_map.1 h0
      have := hp t ht
      have e : 2 * r + 1 - (2 * t).toNat = 2 * (r - t.toNat) + 1 := by omega
      rw [e, ih (r - t.toNat) (by omega)] at h2
      omega
end Go.Proofs.Ytookdmdlpglbcab
