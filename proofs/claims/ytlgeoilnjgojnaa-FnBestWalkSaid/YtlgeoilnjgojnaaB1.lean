/- The loop is best, plain. No condition. -/
import Derived.Test.YtlgeoilnjgojnaaB0
import Derived.Test.YtlgeoilnjgojnaaW1
import Derived.Test.YtlgeoilnjgojnaaW2
import Derived.Test.YtlgeoilnjgojnaaH7
namespace Go.Proofs.Ytlgeoilnjgojnaa
open Go.RowKit

/-- The loop is no longer than LeastWalk. -/
theorem loop_le {d : Int × Int → Int × Int → Int} {x f s : Int} (hd : ∀ a b, d a b = btw a b x) (hx : 0 ≤ x) (hs0 : 0 ≤ s) (l : List (Int × Int)) (a : Int × Int)
    (hl : ∀ h ∈ a :: l, 0 ≤ h.1 ∧ h.1 ≤ 40 ∧ h.1 ≤ f ∧ (h.2 = 0 ∨ h.2 = 1 ∧ s = 1))
    (hsort : (a :: l).Pairwise (fun b c => keyP true b ≤ keyP true c)) :
    pl2 d a (l ++ [(0, 0)]) ≤ if a.2 = 0 then 2 * f - a.1 + 2 * (x * s) else a.1 + x := by
  have hxs : 0 ≤ x * s := Int.mul_nonneg hx hs0
  induction l generalizing a with
  | nil =>
    obtain ⟨h1, -, h2, h3⟩ := hl a (by simp)
    rw [List.nil_append, pl2_one, hd, btw]
    by_cases h0 : a.2 = 0
    · simp only [h0, if_true]; omega
    · simp only [h0, if_false]; omega
  | cons b l ih =>
    have ihb := ih b (fun h hm => hl h (List.mem_cons_of_mem _ hm)) (List.pairwise_cons.1 hsort).2
    obtain ⟨h1, h1', h2, h3⟩ := hl a (by simp)
    obtain ⟨g1, g1', g2, g3⟩ := hl b (by simp)
    have hk := (List.pairwise_cons.1 hsort).1 b (by simp)
    simp only [keyP, if_true] at hk
    rw [List.cons_append, pl2, hd, btw]
    generalize pl2 d b (l ++ [(0, 0)]) = r at ihb ⊢
    rcases h3 with h3 | ⟨h3, rfl⟩
    · rcases g3 with g3 | ⟨g3, rfl⟩
      · simp only [h3, g3, if_true] at hk ihb ⊢; omega
      · simp only [h3, g3, if_true, show ¬ (1 : Int) = 0 by omega, show ¬ (0 : Int) = 1 by omega, if_false] at hk ihb ⊢; omega
    · rcases g3 with g3 | ⟨g3, -⟩
      · simp only [h3, g3, if_true, show ¬ (1 : Int) = 0 by omega, if_false] at hk; omega
      · simp only [h3, g3, if_true, show ¬ (1 : Int) = 0 by omega, if_false] at hk ihb ⊢; omega

theorem house_mem {rs : List (List Int)} (hv : housesB rs = true) {h : Int × Int} (hm : h ∈ rs.map hp) : 0 ≤ h.1 ∧ h.1 ≤ 40 ∧ (h.2 = 0 ∨ h.2 = 1) := by
  obtain ⟨r, hr, rfl⟩ := List.mem_map.1 hm
  obtain ⟨k, hk, rfl⟩ := List.getElem_of_mem hr
  obtain ⟨p, s, hps, hb⟩ := house_row hv hk
  rw [hps]; simp only [hp]
  simp
  omega
/-- Some order of a list's places is sorted by a key. -/
theorem sorted_order (key : Nat → Int) (n : Nat) : ∃ l : List Nat, l.Perm (List.range n) ∧ l.Pairwise (fun a b => key a ≤ key b) := by
  refine ⟨(List.range n).mergeSort (fun a b => decide (key a ≤ key b)), List.mergeSort_perm _ _, ?_⟩
  have := List.pairwise_mergeSort (le := fun a b => decide (key a ≤ key b)) (fun a b c h1 h2 => by simp only [decide_eq_true_eq] at *; omega) (fun a b => by simp only [Bool.or_eq_true, decide_eq_true_eq]; omega) (List.range n)
  exact this.imp (fun h => by simpa using h)
theorem far_ge {l : List (Int × Int)} {h : Int × Int} (hm : h ∈ l) : h.1 ≤ farH l := by
  obtain ⟨a, b, rfl⟩ := List.append_of_mem hm
  have h1 := farH_le (a ++ [h]) b
  rw [List.append_assoc, List.singleton_append] at h1
  have h2 : h.1 ≤ farH (a ++ [h]) := by unfold farH; rw [List.foldl_append]; simp only [List.foldl_cons, List.foldl_nil]; omega
  omega
theorem side_ge {l : List (Int × Int)} {h : Int × Int} (hm : h ∈ l) : h.2 ≤ sideH l := by
  obtain ⟨a, b, rfl⟩ := List.append_of_mem hm
  have h1 := sideH_le (a ++ [h]) b
  rw [List.append_assoc, List.singleton_append] at h1
  have h2 : h.2 ≤ sideH (a ++ [h]) := by unfold sideH; rw [List.foldl_append]; simp only [List.foldl_cons, List.foldl_nil]; omega
  omega
/-- What the sets tell is LeastWalk. -/
theorem best_of {rs : List (List Int)} {x v : Int} {L : List (Int × Int)} (hv : housesB rs = true) (hx : 0 ≤ x)
    (h1 : ∀ h ∈ L, h ∈ rs.map hp) (h2 : ∀ h ∈ rs.map hp, h = (0, 0) ∨ h ∈ L)
    (hV : LeastTo (fun a b => btw a b x) (0, 0) (fun k => L.getD k (0, 0)) (2 ^ L.length - 1) (0, 0) v) :
    v = 2 * farH (rs.map hp) + 2 * x * sideH (rs.map hp) := by
  have hfar := fun h (hm : h ∈ rs.map hp) => far_ge hm
  have hside := fun h (hm : h ∈ rs.map hp) => side_ge hm
  have hf0 := farH_nn (rs.map hp)
  have hs0 := sideH_nn (rs.map hp)
  have hfo := farH_or (rs.map hp)
  have hso := sideH_or (rs.map hp)
  have hhm := fun h (hm : h ∈ rs.map hp) => house_mem hv hm
  obtain ⟨f, hfe⟩ : ∃ f, farH (rs.map hp) = f := ⟨_, rfl⟩
  obtain ⟨s, hse⟩ : ∃ s, sideH (rs.map hp) = s := ⟨_, rfl⟩
  simp only [hfe, hse] at *
  have hs1 : s = 0 ∨ s = 1 := by
    rcases hso with h | ⟨h, hm, he⟩
    · exact .inl h
    · have := hhm h hm; omega
  refine Int.le_antisymm ?_ ?_
  · obtain ⟨l, hp', hl⟩ := sorted_order (fun k => keyP true (L.getD k (0, 0))) L.length
    have hc := hV.2 l (cover_full hp')
    have hm : ∀ h ∈ l.map (fun k => L.getD k (0, 0)), h ∈ L := fun h hm => by
      obtain ⟨k, hk, rfl⟩ := List.mem_map.1 hm
      have hk' := List.mem_range.1 (hp'.mem_iff.1 hk)
      rw [List.getD, List.getElem?_eq_getElem hk']; exact List.getElem_mem hk'
    have hle := loop_le (f := f) (s := s) (fun _ _ => rfl) hx hs0 (l.map (fun k => L.getD k (0, 0))) (0, 0) ?_ ?_
    · have e : 2 * x * s = 2 * (x * s) := Int.mul_assoc ..
      simp only [if_true] at hle
      omega
    · intro h hh
      rcases List.mem_cons.1 hh with rfl | hh
      · simp; exact hf0
      · have hr := h1 _ (hm _ hh)
        have g1 := hhm _ hr
        have g2 := hfar _ hr
        have g3 := hside _ hr
        refine ⟨g1.1, g1.2.1, g2, ?_⟩
        omega
    · refine List.pairwise_cons.2 ⟨fun h hh => ?_, List.pairwise_map.2 hl⟩
      have g1 := hhm _ (h1 _ (hm _ hh))
      simp only [keyP, if_true]
      split <;> omega
  · obtain ⟨⟨l, hl, rfl⟩, -⟩ := hV
    have hin : ∀ h ∈ L, h ∈ l.map (fun k => L.getD k (0, 0)) := fun h hm => by
      obtain ⟨k, hk, rfl⟩ := List.getElem_of_mem hm
      refine List.mem_map.2 ⟨k, (hl.2 k).2 ?_, ?_⟩
      · rw [Nat.testBit_two_pow_sub_one]; simpa using hk
      · simp [List.getD, List.getElem?_eq_getElem hk]
    refine loop_ge (fun a b => btw_lin x a b) hx _ f s ?_ ?_
    · rcases hfo with h | ⟨h, hm, he⟩
      · exact .inl h
      · rcases h2 h hm with rfl | hL
        · exact .inl he.symm
        · exact .inr ⟨h, hin h hL, he⟩
    · rcases hso with h | ⟨h, hm, he⟩
      · exact .inl h
      · rcases h2 h hm with rfl | hL
        · exact .inl he.symm
        · rcases hs1 with h0 | h1'
          · exact .inl h0
          · exact .inr ⟨h1', h, hin h hL, by omega⟩
end Go.Proofs.Ytlgeoilnjgojnaa
