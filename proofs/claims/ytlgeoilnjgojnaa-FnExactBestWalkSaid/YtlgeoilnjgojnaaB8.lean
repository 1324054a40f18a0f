/- BestWalk's laws, plain. No condition. -/
import Derived.Test.YtlgeoilnjgojnaaB1
import Derived.Test.YtlgeoilnjgojnaaS10
namespace Go.Proofs.Ytlgeoilnjgojnaa
open Go.RowKit

theorem order_row {rs : List (List Int)} (hv : housesB rs = true) (loop : Bool) : rowB 9 (ordL (ltH rs loop) rs.length) = true := by
  have hl := ordL_length (ltH rs loop) rs.length
  have hl6 := house_len hv
  have hnd := ordL_nodup (ltH rs loop) rs.length
  refine rowB_of (by omega) (fun i hi => ?_) (fun i j hi hj he => ?_)
  · obtain ⟨j, hj, he⟩ := ordL_mem.1 (List.getElem_mem hi)
    rw [he]; omega
  · rcases Nat.lt_trichotomy i j with h | h | h
    · exact absurd he (List.pairwise_iff_getElem.1 hnd i j hi hj h)
    · exact h
    · exact absurd he.symm (List.pairwise_iff_getElem.1 hnd j i hj hi h)
theorem order_walkB {rs : List (List Int)} {x : Int} (hv : (housesB rs && inR x 0 20) = true) (loop : Bool) : walkB rs (ordL (ltH rs loop) rs.length) x = true := by
  have hv1 := hv
  simp only [Bool.and_eq_true] at hv1
  unfold walkB
  rw [hv, order_row hv1.1 loop, ordL_length]
  simp
/-- The walk in the order of the loop is LeastWalk. -/
theorem loop_walk {rs : List (List Int)} {x : Int} (hv : (housesB rs && inR x 0 20) = true) : walkV rs (ordL (ltH rs true) rs.length) x = leastV rs x := by
  have hw := order_walkB hv true
  have hge := walkV_ge hw
  refine Int.le_antisymm ?_ hge
  have hv1 := hv
  simp only [Bool.and_eq_true] at hv1
  obtain ⟨hB, hx⟩ := hv1
  have hx := inR_iff.1 hx
  rw [walkV_yes hw, walkTot_sum, leastV_yes hv]
  have hs0 := sideH_nn (rs.map hp)
  have hf0 := farH_nn (rs.map hp)
  have hmem : ∀ h ∈ (ordL (ltH rs true) rs.length).map (hAt rs), h ∈ rs.map hp := fun h hm => by
    obtain ⟨z, hz, rfl⟩ := List.mem_map.1 hm
    obtain ⟨j, hj, rfl⟩ := ordL_mem.1 hz
    rw [hAt_nat rs j hj]
    exact List.mem_map.2 ⟨rs[j], List.getElem_mem hj, rfl⟩
  have hle := loop_le (f := farH (rs.map hp)) (s := sideH (rs.map hp)) (d := fun a b => btw a b x) (fun _ _ => rfl) hx.1 hs0 ((ordL (ltH rs true) rs.length).map (hAt rs)) (0, 0) ?_ ?_
  · simp only [if_true] at hle
    have e : 2 * x * sideH (rs.map hp) = 2 * (x * sideH (rs.map hp)) := Int.mul_assoc ..
    omega
  · intro h hh
    rcases List.mem_cons.1 hh with rfl | hh
    · simp; exact hf0
    · have hr := hmem h hh
      have g1 := house_mem hB hr
      have g2 := far_ge hr
      have g3 := side_ge hr
      have g4 : sideH (rs.map hp) ≤ 1 := by
        rcases sideH_or (rs.map hp) with h0 | ⟨y, hy, he⟩
        · omega
        · have := house_mem hB hy; omega
      refine ⟨g1.1, g1.2.1, g2, ?_⟩
      omega
  · refine List.pairwise_cons.2 ⟨fun h hh => ?_, List.pairwise_map.2 (order_sorted hB true)⟩
    have g1 := house_mem hB (hmem h hh)
    simp only [keyP, if_true]
    split <;> omega
theorem turn_walk {rs : List (List Int)} {x : Int} (hv : (housesB rs && inR x 0 20) = true) : leastV rs x ≤ walkV rs (ordL (ltH rs false) rs.length) x := walkV_ge (order_walkB hv false)
/-- One more to cross. -/
theorem least_grow {rs : List (List Int)} {x : Int} (h1 : (housesB rs && inR x 0 20) = true) (h2 : (housesB rs && inR (x + 1) 0 20) = true) : leastV rs (x + 1) = leastV rs x + 2 * sideH (rs.map hp) := by
  rw [leastV_yes h1, leastV_yes h2, Int.mul_add, Int.add_mul]; omega
end Go.Proofs.Ytlgeoilnjgojnaa
