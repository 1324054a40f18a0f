/- The walks of the laws FnValidHouses and FnLeastWalk. No condition. -/
import Derived.Test.YtaaekpbiaghjfaaH4
import Derived.Test.YtaaekpbiaghjfaaH6
import Derived.Test.YtaaekpbiaghjfaaEx
namespace Go.Proofs.Ytaaekpbiaghjfaa
open Go.RowKit

theorem Grid.take {w : World} {base B : Nat} {A : Option Addr} {rs : List (List Int)} (h : Grid w base B A rs) (m : Nat) : Grid w base B A (rs.take m) := by
  obtain ⟨hs, h1, h2⟩ := h
  refine ⟨hs.take m, h1.take m, by rw [List.length_take, List.length_take, h2.1], fun i hi => ?_⟩
  simp only [List.length_take] at hi
  obtain ⟨R, c, h3, h4, h5⟩ := h2.2 i (by omega)
  rw [List.getElem_take, List.getElem?_take, if_pos (by omega)]
  exact ⟨R, c, h3, h4, h5⟩

theorem slice_uptoR (b o n c j : Nat) (h : j ≤ c) (W : World) :
    (Instr.slice 23 (.slice (some ⟨b, o, none⟩) n c) none (some (.int .i64 (j : Int))) none).run Try.prog W = .ok (.slice (some ⟨b, o, none⟩) j c) W := by
  have h1 : (0 : Int) ≤ (j : Int) := by omega
  have h2 : (j : Int) ≤ (c : Int) := by omega
  go_simp

theorem housesB_take {rs : List (List Int)} (h : housesB rs = true) (m : Nat) : housesB (rs.take m) = true := by
  simp only [housesB, Bool.and_eq_true, decide_eq_true_eq, List.all_eq_true, List.length_take] at h ⊢
  exact ⟨by omega, fun x hx => h.2 x (List.mem_of_mem_take hx)⟩
theorem foldmax_ge {f : Int × Int → Int} (l : List (Int × Int)) (a : Int) : a ≤ l.foldl (fun m h => max m (f h)) a := by
  induction l generalizing a with
  | nil => exact Int.le_refl _
  | cons x l ih => exact Int.le_trans (by omega) (ih (max a (f x)))
theorem farH_le (l t : List (Int × Int)) : farH l ≤ farH (l ++ t) := by
  unfold farH; rw [List.foldl_append]; exact foldmax_ge (f := fun h => h.1) t _
theorem sideH_le (l t : List (Int × Int)) : sideH l ≤ sideH (l ++ t) := by
  unfold sideH; rw [List.foldl_append]; exact foldmax_ge (f := fun h => h.2) t _
theorem sideH_nn (l : List (Int × Int)) : 0 ≤ sideH l := foldmax_ge (f := fun h => h.2) l 0
theorem farH_nn (l : List (Int × Int)) : 0 ≤ farH l := foldmax_ge (f := fun h => h.1) l 0
theorem leastV_take {rs : List (List Int)} {x : Int} (h : (housesB rs && inR x 0 20) = true) (m : Nat) : leastV (rs.take m) x ≤ leastV rs x := by
  have h' := h
  simp only [Bool.and_eq_true] at h
  rw [leastV_yes h', leastV_yes (by rw [housesB_take h.1 m, h.2]; rfl)]
  have h1 := farH_le ((rs.take m).map hp) ((rs.drop m).map hp)
  have h2 := sideH_le ((rs.take m).map hp) ((rs.drop m).map hp)
  rw [← List.map_append, List.take_append_drop] at h1 h2
  have hx : 0 ≤ x := (inR_iff.1 h.2).1
  have h3 : 2 * x * sideH ((rs.take m).map hp) ≤ 2 * x * sideH (rs.map hp) := Int.mul_le_mul_of_nonneg_left h2 (by omega)
  omega
theorem leastV_zero {rs : List (List Int)} (h : housesB rs = true) : leastV rs 0 = 2 * farH (rs.map hp) := by
  rw [leastV_yes (by rw [h]; rfl)]; omega
theorem farH_bd {rs : List (List Int)} (h : housesB rs = true) : farH (rs.map hp) ≤ 20 := by
  have : ∀ k, k ≤ rs.length → farH ((rs.take k).map hp) ≤ 20 := by
    intro k
    induction k with
    | zero => intro _; simp [farH]
    | succ k ih =>
      intro hk
      obtain ⟨p, s, he, hb⟩ := house_row h (show k < rs.length by omega)
      rw [farH_take (show k < rs.length by omega) he]
      have := ih (by omega)
      omega
  have := this rs.length (Nat.le_refl _)
  rwa [List.take_length] at this
theorem leastV_nn {rs : List (List Int)} {x : Int} (h : (housesB rs && inR x 0 20) = true) : 0 ≤ leastV rs x := by
  have h' := h
  simp only [Bool.and_eq_true] at h
  rw [leastV_yes h']
  have hx : 0 ≤ x := (inR_iff.1 h.2).1
  have h1 := farH_nn (rs.map hp)
  have h2 : 0 ≤ 2 * x * sideH (rs.map hp) := Int.mul_nonneg (by omega) (sideH_nn _)
  omega

/-- What is drawn. -/
def Drawn (w : World) (A : Option Addr) (c : Nat) (rs : List (List Int)) (w' : World) : Prop :=
  rs.length ≤ 6 ∧ rs.length ≤ c ∧ Two rs ∧ Grid w' 0 w'.heap.size A rs ∧ Below w.heap.size w w'

set_option maxRecDepth 100000 in
theorem drawValidHouses_any (A : Option Addr) (c : Nat) (zs : List Int) (w : World) (hr : Own w 0 w.heap.size A (zs.map (Value.int .u8))) (hx : zs.length ≤ c ∧ c ≤ maxLen ∧ ∀ z ∈ zs, (Lit.int .u8 z).wf = true) :
    Calls Try.prog 14 #[.slice A zs.length c] w fun e w' => ∃ (A : Option Addr) (c : Nat) (rs : List (List Int)), e = .returned (.slice A rs.length c) ∧ Drawn w A c rs w' := by
  have H := Lib.hid hx
  clear hx
  go_enter Try.func14, Try.ntmps14
  go_wp2_with fail
  refine (newReader_any _ _ _ _ hr H.out).mono ?_
  rintro e w1 ⟨rfl, hrd, hb1⟩
  go_wp2_with fail
  refine (someHouses_any _ 0 _ hrd (by omega)).mono ?_
  rintro e w2 ⟨A2, c2, rs, rfl, h6, hc, htw, hm, _, hg⟩
  go_wp2_with fail
  go_ret
  exact ⟨A2, c2, rs, rfl, h6, hc, htw, hm.row, hb1.grown hg hb1.size (fun k hk => by injection hk with hk; omega)⟩

set_option maxRecDepth 100000 in
theorem drawLeastWalk_any (A : Option Addr) (c : Nat) (zs : List Int) (w : World) (hr : Own w 0 w.heap.size A (zs.map (Value.int .u8))) (hx : zs.length ≤ c ∧ c ≤ maxLen ∧ ∀ z ∈ zs, (Lit.int .u8 z).wf = true) :
    Calls Try.prog 30 #[.slice A zs.length c] w fun e w' => ∃ (A : Option Addr) (c : Nat) (rs : List (List Int)) (x : Int), e = .returned (.tuple #[.slice A rs.length c, .int .i64 x]) ∧ (-1 ≤ x ∧ x ≤ 21) ∧ Drawn w A c rs w' := by
  have H := Lib.hid hx
  clear hx
  go_enter Try.func30, Try.ntmps30
  go_wp2_with fail
  refine (newReader_any _ _ _ _ hr H.out).mono ?_
  rintro e w1 ⟨rfl, hrd, hb1⟩
  go_wp2_with fail
  refine (someHouses_any _ 0 _ hrd (by omega)).mono ?_
  rintro e w2 ⟨A2, c2, rs, rfl, h6, hc, htw, hm, ⟨q, hq, hrd2⟩, hg⟩
  have HTW := Lib.hid htw
  have HM := Lib.hid hm
  have HG := Lib.hid hg
  have hz1 := hrd.lt
  clear htw hm hg
  go_wp2_with fail
  refine (one_lit _ q w2 hrd2 (by omega) [3, 1, 0, 20, 21, -1] (by decide) (by decide) 6 rfl _ rfl).mono ?_
  rintro e w3 ⟨x, rfl, hx, _, hg3⟩
  have hxb : -1 ≤ x ∧ x ≤ 21 := by simp at hx; omega
  have HF := Lib.hid (show Drawn w A2 c2 rs w3 from ⟨h6, hc, HTW.out, ((HM.out.apart (Nat.le_refl _) hg3 (fun i hi => by injection hi with hi; omega)).more hg3.size).row, hb1.grown (grown_trans HG.out hg3) hb1.size (fun k hk => by injection hk with hk; omega)⟩)
  have HXB := Lib.hid hxb
  clear hx hg3 hxb
  go_wp2_with fail
  go_ret2
  exact ⟨A2, c2, rs, x, rfl, HXB.out, HF.out⟩

set_option maxRecDepth 100000 in
set_option maxHeartbeats 1000000 in
theorem validHouses_law (A : Option Addr) (c : Nat) (zs : List Int) (w : World) (hr : Own w 0 w.heap.size A (zs.map (Value.int .u8))) (hx : zs.length ≤ c ∧ c ≤ maxLen ∧ ∀ z ∈ zs, (Lit.int .u8 z).wf = true) :
    Calls Try.prog 3 #[.slice A zs.length c] w fun e w' => e = .returned (.bool true) ∧ Below w.heap.size w w' := by
  have hl : zs.length ≤ 9223372036854775807 := by have := hx.1; have := hx.2.1; unfold maxLen at this; omega
  have HX := Lib.hid hx
  clear hx
  by_cases h20 : zs.length ≤ 1048576
  · go_enter Try.func3, Try.ntmps3
    go_wp2_with fail
    refine (drawValidHouses_any _ _ _ _ hr HX.out).mono ?_
    rintro e w1 ⟨B, d, rs, rfl, h6, hdc, htw, ho, hb1⟩
    have HM := Lib.hid (show ∀ r ∈ rs, r.length ≤ 1000000000 from fun r h => by have := htw r h; omega)
    clear htw
    have ho2 := fun (w2 : World) (hb : Below w1.heap.size w1 w2) => ho.past hb
    by_cases hv : housesB rs = true
    · have HV := Lib.hid hv
      have HT := Lib.hid (housesB_take hv (rs.length - 1))
      clear hv
      go_wp2_with fail
      refine (impValidHouses_any _ _ _ _ ho HM.out).mono ?_
      rintro e w2 ⟨rfl, hb2⟩
      rw [HV.out]
      have ho2 := ho.past hb2
      go_wp2_with fail
      refine (specValidHouses_any _ _ _ _ ho2 (by omega) HM.out).mono ?_
      rintro e w' ⟨rfl, rfl⟩
      rw [HV.out]
      have hb12 := hb1.trans (hb2.mono hb1.size)
      by_cases h0 : rs.length = 0
      · have h1 : ((rs.length : Int) == 0) = true := beq_iff_eq.2 (by omega)
        clear h0
        go_wp2_with fail
        go_ret
        exact ⟨rfl, hb12⟩
      · have h1 : ((rs.length : Int) == 0) = false := beq_eq_false_iff_ne.2 (by omega)
        have hpos : 0 < rs.length := by omega
        obtain ⟨b, o, R, cR, rfl, _, _, _, _⟩ := ho2.open hpos
        obtain ⟨m, hm⟩ : ∃ m, m = rs.length - 1 := ⟨_, rfl⟩
        have hsub : (rs.length : Int) - 1 = (m : Int) := by omega
        have hw : IntKind.i64.wrap ((rs.length : Int) - 1) = (m : Int) := by rw [hsub]; exact IntWalk.i64_in _ (by omega)
        have hsl := slice_uptoR b o rs.length d m (by omega)
        have hml : (rs.take m).length = m := by rw [List.length_take]; omega
        have hi := impValidHouses_any (some ⟨b, o, none⟩) d (rs.take m) w2 (ho2.take m) (fun r h => HM.out r (List.mem_of_mem_take h))
        rw [hml, hm, HT.out, ← hm] at hi
        have HI := Lib.hid hi
        clear h0 hm hml hi
        go_wp2_with fail
        refine HI.out.mono ?_
        rintro e w3 ⟨rfl, hb3⟩
        clear hsub hw hsl
        go_wp2_with fail
        go_ret
        exact ⟨rfl, hb12.trans (hb3.mono hb12.size)⟩
    · have hv' : housesB rs = false := by simpa using hv
      have HV := Lib.hid hv'
      clear hv hv'
      go_wp2_with fail
      refine (impValidHouses_any _ _ _ _ ho HM.out).mono ?_
      rintro e w2 ⟨rfl, hb2⟩
      rw [HV.out]
      have ho2 := ho.past hb2
      go_wp2_with fail
      refine (specValidHouses_any _ _ _ _ ho2 (by omega) HM.out).mono ?_
      rintro e w' ⟨rfl, rfl⟩
      rw [HV.out]
      go_wp2_with fail
      refine (specValidHouses_any _ _ _ _ ho2 (by omega) HM.out).mono ?_
      rintro e w' ⟨rfl, rfl⟩
      rw [HV.out]
      go_wp2_with fail
      go_ret
      exact ⟨rfl, hb1.trans (hb2.mono hb1.size)⟩
  · go_enter Try.func3, Try.ntmps3
    go_wp2
    go_ret
    exact ⟨rfl, Below.refl _ _⟩
end Go.Proofs.Ytaaekpbiaghjfaa
