/- The walks of the laws FnValidHouses and FnLeastWalk. No condition. -/
import Derived.Test.YtlgeoilnjgojnaaH4
import Derived.Test.YtlgeoilnjgojnaaH6
import Derived.Test.YtlgeoilnjgojnaaEx
namespace Go.Proofs.Ytlgeoilnjgojnaa
open Go.RowKit

theorem Grid.take {w : World} {base B : Nat} {A : Option Addr} {rs : List (List Int)} (h : Grid w base B A rs) (m : Nat) : Grid w base B A (rs.take m) := by
  obtain ⟨hs, h1, h2⟩ := h
  refine ⟨hs.take m, h1.take m, by rw [List.length_take, List.length_take, h2.1], fun i hi => ?_⟩
  simp only [List.length_take] at hi
  obtain ⟨R, c, h3, h4, h5⟩ := h2.2 i (by omega)
  rw [List.getElem_take, List.getElem?_take, if_pos (by omega)]
  exact ⟨R, c, h3, h4, h5⟩

theorem slice_uptoR (b o n c j : Nat) (h : j ≤ c) (W : World) :
    (Instr.slice 22 (.slice (some ⟨b, o, none⟩) n c) none (some (.int .i64 (j : Int))) none).run Try.prog W = .ok (.slice (some ⟨b, o, none⟩) j c) W := by
  have h1 : (0 : Int) ≤ (j : Int) := by omega
  have h2 : (j : Int) ≤ (c : Int) := by omega
  go_simp

theorem housesB_take {rs : List (List Int)} (h : housesB rs = true) (m : Nat) : housesB (rs.take m) = true := by
  simp only [housesB, Bool.and_eq_true, decide_eq_true_eq, List.all_eq_true, List.length_take] at h ⊢
  exact ⟨by omega, fun x hx => h.2 x (List.mem_of_mem_take hx)⟩
theorem foldmax_ge {f : Int × Int → Int} (l : List (Int × Int)) (a : Int) : a ≤ l.foldl (fun m h => max m (f h)) a := by
  induction l generalizing a with
  | nil => exact Int.le_refl _
  | cons x l ih => exact Int.le_trans (by omega) (ih (max a (f x)))
theorem farH_le (l t : List (Int × Int)) : farH l ≤ farH (l ++ t) := by
  unfold farH; rw [List.foldl_append]; exact foldmax_ge (f := fun h => h.1) t _
theorem sideH_le (l t : List (Int × Int)) : sideH l ≤ sideH (l ++ t) := by
  unfold sideH; rw [List.foldl_append]; exact foldmax_ge (f := fun h => h.2) t _
theorem sideH_nn (l : List (Int × Int)) : 0 ≤ sideH l := foldmax_ge (f := fun h => h.2) l 0
theorem farH_nn (l : List (Int × Int)) : 0 ≤ farH l := foldmax_ge (f := fun h => h.1) l 0
theorem leastV_take {rs : List (List Int)} {x : Int} (h : (housesB rs && inR x 0 20) = true) (m : Nat) : leastV (rs.take m) x ≤ leastV rs x := by
  have h' := h
  simp only [Bool.and_eq_true] at h
  rw [leastV_yes h', leastV_yes (by rw [housesB_take h.1 m, h.2]; rfl)]
  have h1 := farH_le ((rs.take m).map hp) ((rs.drop m).map hp)
  have h2 := sideH_le ((rs.take m).map hp) ((rs.drop m).map hp)
  rw [← List.map_append, List.take_append_drop] at h1 h2
  have hx : 0 ≤ x := (inR_iff.1 h.2).1
  have h3 : 2 * x * sideH ((rs.take m).map hp) ≤ 2 * x * sideH (rs.map hp) := Int.mul_le_mul_of_nonneg_left h2 (by omega)
  omega
theorem leastV_zero {rs : List (List Int)} (h : housesB rs = true) : leastV rs 0 = 2 * farH (rs.map hp) := by
  rw [leastV_yes (by rw [h]; rfl)]; omega
theorem farH_bd {rs : List (List Int)} (h : housesB rs = true) : farH (rs.map hp) ≤ 20 := by
  have : ∀ k, k ≤ rs.length → farH ((rs.take k).map hp) ≤ 20 := by
    intro k
    induction k with
    | zero => intro _; simp [farH]
    | succ k ih =>
      intro hk
      obtain ⟨p, s, he, hb⟩ := house_row h (show k < rs.length by omega)
      rw [farH_take (show k < rs.length by omega) he]
      have := ih (by omega)
      omega
  have := this rs.length (Nat.le_refl _)
  rwa [List.take_length] at this
theorem leastV_nn {rs : List (List Int)} {x : Int} (h : (housesB rs && inR x 0 20) = true) : 0 ≤ leastV rs x := by
  have h' := h
  simp only [Bool.and_eq_true] at h
  rw [leastV_yes h']
  have hx : 0 ≤ x := (inR_iff.1 h.2).1
  have h1 := farH_nn (rs.map hp)
  have h2 : 0 ≤ 2 * x * sideH (rs.map hp) := Int.mul_nonneg (by omega) (sideH_nn _)
  omega

/-- What is drawn. -/
def Drawn (w : World) (A : Option Addr) (c : Nat) (rs : List (List Int)) (w' : World) : Prop :=
  rs.length ≤ 6 ∧ rs.length ≤ c ∧ Two rs ∧ Grid w' 0 w'.heap.size A rs ∧ Below w.heap.size w w'
end Go.Proofs.Ytlgeoilnjgojnaa
