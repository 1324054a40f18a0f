/- Walks of houses as sums, plain. No condition. -/
import Derived.Test.YtlgeoilnjgojnaaW0
import Derived.Test.YtlgeoilnjgojnaaH9
import Derived.Test.YtlgeoilnjgojnaaS2
namespace Go.Proofs.Ytlgeoilnjgojnaa
open Go.RowKit

theorem btw_lin (x : Int) (a b : Int × Int) : btw a b x = abI a b + x * cr a b := by
  unfold btw abI cr; split <;> simp
theorem btw_sym (x : Int) (a b : Int × Int) : btw a b x = btw b a x := by
  unfold btw
  by_cases h : a.2 = b.2
  · rw [if_pos h, if_pos h.symm]; omega
  · rw [if_neg h, if_neg (fun e => h e.symm)]; omega
theorem walkTot_sum (rs : List (List Int)) (x : Int) (zs : List Int) : walkTot rs x zs = pl2 (fun a b => btw a b x) (0, 0) (zs.map (hAt rs) ++ [(0, 0)]) := by
  unfold walkTot wlk
  rw [fold_pl2 (fun a b => btw a b x) (hAt rs), pl2_append, pl2_one]
  simp
theorem walkTot_rev (rs : List (List Int)) (x : Int) (zs : List Int) : walkTot rs x zs.reverse = walkTot rs x zs := by
  rw [walkTot_sum, walkTot_sum, List.map_reverse, ← pl2_rev (fun a b => btw_sym x a b)]

theorem foldmax_or {f : Int × Int → Int} (l : List (Int × Int)) (a : Int) : l.foldl (fun m h => max m (f h)) a = a ∨ ∃ h ∈ l, f h = l.foldl (fun m h => max m (f h)) a := by
  induction l generalizing a with
  | nil => exact .inl rfl
  | cons x l ih =>
    rcases ih (max a (f x)) with h | ⟨y, hy, he⟩
    · simp only [List.foldl_cons]
      rcases Int.le_total a (f x) with hle | hle
      · exact .inr ⟨x, by simp, by rw [h]; omega⟩
      · exact .inl (by rw [h]; omega)
    · exact .inr ⟨y, by simp [hy], he⟩
theorem farH_or (l : List (Int × Int)) : farH l = 0 ∨ ∃ h ∈ l, h.1 = farH l := foldmax_or (f := fun h => h.1) l 0
theorem sideH_or (l : List (Int × Int)) : sideH l = 0 ∨ ∃ h ∈ l, h.2 = sideH l := foldmax_or (f := fun h => h.2) l 0

/-- Every walk over all houses and back is no shorter than LeastWalk. -/
theorem loop_least {rs : List (List Int)} {x : Int} (hv : housesB rs = true) (hx : 0 ≤ x) (l : List (Int × Int)) (hl : ∀ h ∈ rs.map hp, h ∈ l) :
    2 * farH (rs.map hp) + 2 * x * sideH (rs.map hp) ≤ pl2 (fun a b => btw a b x) (0, 0) (l ++ [(0, 0)]) := by
  refine loop_ge (fun a b => btw_lin x a b) hx l _ _ ?_ ?_
  · rcases farH_or (rs.map hp) with h | ⟨h, hm, he⟩
    · exact .inl h
    · exact .inr ⟨h, hl h hm, he⟩
  · rcases sideH_or (rs.map hp) with h | ⟨h, hm, he⟩
    · exact .inl h
    · have hm' := hm
      obtain ⟨r, hr, rfl⟩ := List.mem_map.1 hm
      obtain ⟨k, hk, rfl⟩ := List.getElem_of_mem hr
      obtain ⟨p, s, hps, hb⟩ := house_row hv hk
      have h2 : (hp rs[k]).2 = s := by rw [hps]; simp [hp]
      rw [h2] at he
      rcases (show s = 0 ∨ s = 1 by omega) with h0 | h1
      · exact .inl (by omega)
      · exact .inr ⟨by omega, hp rs[k], hl _ hm', by rw [h2]; exact h1⟩
theorem hAt_nat (rs : List (List Int)) (j : Nat) (hj : j < rs.length) : hAt rs (j : Int) = hp rs[j] := by
  simp [hAt, List.getD, List.getElem?_eq_getElem hj]
theorem all_in {rs : List (List Int)} {zs : List Int} {m : Nat} (hr : rowB m zs = true) (hl : zs.length = rs.length) : ∀ h ∈ rs.map hp, h ∈ zs.map (hAt rs) := by
  intro h hm
  obtain ⟨r, hr2, rfl⟩ := List.mem_map.1 hm
  obtain ⟨j, hj, rfl⟩ := List.getElem_of_mem hr2
  exact List.mem_map.2 ⟨(j : Int), row_mem hr (by omega), hAt_nat rs j hj⟩
theorem walkV_ge {rs : List (List Int)} {zs : List Int} {x : Int} (h : walkB rs zs x = true) : leastV rs x ≤ walkV rs zs x := by
  have h' := h
  simp only [walkB, Bool.and_eq_true, decide_eq_true_eq] at h
  rw [walkV_yes h', walkTot_sum, leastV_yes (by rw [h.1.1, h.1.2]; rfl)]
  exact loop_least h.1.1 (inR_iff.1 h.1.2).1 _ (all_in h.2.2 h.2.1)
end Go.Proofs.Ytlgeoilnjgojnaa
