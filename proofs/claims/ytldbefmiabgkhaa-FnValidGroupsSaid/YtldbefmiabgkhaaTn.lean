/- The walk of the law FnValidGroups. No condition. -/
import Derived.Test.YtldbefmiabgkhaaTm
import Derived.Test.YtldbefmiabgkhaaT7
namespace Go.Proofs.Ytldbefmiabgkhaa
open Go.RowKit

theorem Grid.takeG {w : World} {base B : Nat} {A : Option Addr} {rs : List (List Int)} (h : Grid w base B A rs) (m : Nat) : Grid w base B A (rs.take m) := by
  obtain ⟨hs, h1, h2⟩ := h
  refine ⟨hs.take m, h1.take m, by rw [List.length_take, List.length_take, h2.1], fun i hi => ?_⟩
  simp only [List.length_take] at hi
  obtain ⟨R, c, h3, h4, h5⟩ := h2.2 i (by omega)
  rw [List.getElem_take, List.getElem?_take, if_pos (by omega)]
  exact ⟨R, c, h3, h4, h5⟩
theorem slice_uptoG (b o n c j : Nat) (h : j ≤ c) (W : World) :
    (Instr.slice 22 (.slice (some ⟨b, o, none⟩) n c) none (some (.int .i64 (j : Int))) none).run Try.prog W = .ok (.slice (some ⟨b, o, none⟩) j c) W := by
  have h1 : (0 : Int) ≤ (j : Int) := by omega
  have h2 : (j : Int) ≤ (c : Int) := by omega
  go_simp
theorem groupsB_take {rs : List (List Int)} (h : groupsB rs = true) (m : Nat) : groupsB (rs.take m) = true := by
  simp only [groupsB, Bool.and_eq_true, decide_eq_true_eq, List.all_eq_true, List.length_take] at h ⊢
  exact ⟨fun x hx => h.1 x (List.mem_of_mem_take hx), by omega⟩

set_option maxRecDepth 100000 in
set_option maxHeartbeats 1000000 in
theorem validGroups_law (A : Option Addr) (c : Nat) (zs : List Int) (w : World) (hr : Own w 0 w.heap.size A (zs.map (Value.int .u8))) (hx : zs.length ≤ c ∧ c ≤ maxLen ∧ ∀ z ∈ zs, (Lit.int .u8 z).wf = true) :
    Calls Try.prog 7 #[.slice A zs.length c] w fun e w' => e = .returned (.bool true) ∧ Below w.heap.size w w' := by
  have hl : zs.length ≤ 9223372036854775807 := by have := hx.1; have := hx.2.1; unfold maxLen at this; omega
  have HX := Lib.hid hx
  clear hx
  by_cases h20 : zs.length ≤ 1048576
  · go_enter Try.func7, Try.ntmps7
    go_wp2_with fail
    refine (drawValidGroups_any _ _ _ _ hr HX.out).mono ?_
    rintro e w1 ⟨B, d, rs, rfl, h6, hdc, htw, ho, hb1⟩
    have HM := Lib.hid (show ∀ r ∈ rs, r.length ≤ 1000000000 from fun r h => by have := htw r h; omega)
    clear htw
    by_cases hv : groupsB rs = true
    · have HV := Lib.hid hv
      have HT := Lib.hid (groupsB_take hv (rs.length - 1))
      clear hv
      go_wp2_with fail
      refine (impValidGroups_any _ _ _ _ ho HM.out).mono ?_
      rintro e w' ⟨rfl, rfl⟩
      rw [HV.out]
      go_wp2_with fail
      refine (specValidGroups_any _ _ _ _ ho (by omega) HM.out).mono ?_
      rintro e w' ⟨rfl, rfl⟩
      rw [HV.out]
      by_cases h0 : rs.length = 0
      · have h1 : ((rs.length : Int) == 0) = true := beq_iff_eq.2 (by omega)
        clear h0
        go_wp2_with fail
        go_ret
        exact ⟨rfl, hb1⟩
      · have h1 : ((rs.length : Int) == 0) = false := beq_eq_false_iff_ne.2 (by omega)
        have hpos : 0 < rs.length := by omega
        obtain ⟨b, o, R, cR, rfl, _, _, _, _⟩ := ho.open hpos
        obtain ⟨m, hm⟩ : ∃ m, m = rs.length - 1 := ⟨_, rfl⟩
        have hsub : (rs.length : Int) - 1 = (m : Int) := by omega
        have hw : IntKind.i64.wrap ((rs.length : Int) - 1) = (m : Int) := by rw [hsub]; exact IntWalk.i64_in _ (by omega)
        have hsl := slice_uptoG b o rs.length d m (by omega)
        have hml : (rs.take m).length = m := by rw [List.length_take]; omega
        have hi := impValidGroups_any (some ⟨b, o, none⟩) d (rs.take m) w1 (ho.takeG m) (fun r h => HM.out r (List.mem_of_mem_take h))
        rw [hml, hm, HT.out, ← hm] at hi
        have HI := Lib.hid hi
        clear h0 hm hml hi
        go_wp2_with fail
        refine HI.out.mono ?_
        rintro e w' ⟨rfl, rfl⟩
        clear hsub hw hsl
        go_wp2_with fail
        go_ret
        exact ⟨rfl, hb1⟩
    · have hv' : groupsB rs = false := by simpa using hv
      have HV := Lib.hid hv'
      clear hv hv'
      go_wp2_with fail
      refine (impValidGroups_any _ _ _ _ ho HM.out).mono ?_
      rintro e w' ⟨rfl, rfl⟩
      rw [HV.out]
      go_wp2_with fail
      refine (specValidGroups_any _ _ _ _ ho (by omega) HM.out).mono ?_
      rintro e w' ⟨rfl, rfl⟩
      rw [HV.out]
      go_wp2_with fail
      refine (specValidGroups_any _ _ _ _ ho (by omega) HM.out).mono ?_
      rintro e w' ⟨rfl, rfl⟩
      rw [HV.out]
      go_wp2_with fail
      go_ret
      exact ⟨rfl, hb1⟩
  · go_enter Try.func7, Try.ntmps7
    go_wp2
    go_ret
    exact ⟨rfl, Below.refl _ _⟩
end Go.Proofs.Ytldbefmiabgkhaa
