/- The walk of the law FnValidCoaches. No condition. -/
import Derived.Test.YtmhoephclceihaaK3
import Derived.Test.YtmhoephclceihaaK4
import Derived.Test.YtmhoephclceihaaEx
namespace Go.Proofs.Ytmhoephclceihaa
open Go.RowKit

theorem Grid.take {w : World} {base B : Nat} {A : Option Addr} {rs : List (List Int)} (h : Grid w base B A rs) (m : Nat) : Grid w base B A (rs.take m) := by
  obtain ⟨hs, h1, h2⟩ := h
  refine ⟨hs.take m, h1.take m, by rw [List.length_take, List.length_take, h2.1], fun i hi => ?_⟩
  simp only [List.length_take] at hi
  obtain ⟨R, c, h3, h4, h5⟩ := h2.2 i (by omega)
  rw [List.getElem_take, List.getElem?_take, if_pos (by omega)]
  exact ⟨R, c, h3, h4, h5⟩

theorem slice_uptoR (b o n c j : Nat) (h : j ≤ c) (W : World) :
    (Instr.slice 22 (.slice (some ⟨b, o, none⟩) n c) none (some (.int .i64 (j : Int))) none).run Try.prog W = .ok (.slice (some ⟨b, o, none⟩) j c) W := by
  have h1 : (0 : Int) ≤ (j : Int) := by omega
  have h2 : (j : Int) ≤ (c : Int) := by omega
  go_simp

theorem coachesB_take {rs : List (List Int)} (h : coachesB rs = true) (m : Nat) : coachesB (rs.take m) = true := by
  simp only [coachesB, Bool.and_eq_true, decide_eq_true_eq, List.all_eq_true, List.length_take] at h ⊢
  exact ⟨by omega, fun x hx => h.2 x (List.mem_of_mem_take hx)⟩
/-- What is drawn. -/
def Drawn (w : World) (A : Option Addr) (c : Nat) (rs : List (List Int)) (w' : World) : Prop :=
  rs.length ≤ 10 ∧ rs.length ≤ c ∧ Lens 4 rs ∧ Grid w' 0 w'.heap.size A rs ∧ Below w.heap.size w w'

set_option maxRecDepth 100000 in
theorem drawValidCoaches_any (A : Option Addr) (c : Nat) (zs : List Int) (w : World) (hr : Own w 0 w.heap.size A (zs.map (Value.int .u8))) (hx : zs.length ≤ c ∧ c ≤ maxLen ∧ ∀ z ∈ zs, (Lit.int .u8 z).wf = true) :
    Calls Try.prog 32 #[.slice A zs.length c] w fun e w' => ∃ (A : Option Addr) (c : Nat) (rs : List (List Int)), e = .returned (.slice A rs.length c) ∧ Drawn w A c rs w' := by
  have H := Lib.hid hx
  clear hx
  go_enter Try.func32, Try.ntmps32
  go_wp2_with fail
  refine (newReader_any _ _ _ _ hr H.out).mono ?_
  rintro e w1 ⟨rfl, hrd, hb1⟩
  go_wp2_with fail
  refine (someCoaches_any _ 0 _ hrd (by omega)).mono ?_
  rintro e w2 ⟨A2, c2, rs, rfl, h6, hc, htw, hm, _, hg⟩
  go_wp2_with fail
  go_ret
  exact ⟨A2, c2, rs, rfl, h6, hc, htw, hm.row, hb1.grown hg hb1.size (fun k hk => by injection hk with hk; omega)⟩

set_option maxRecDepth 100000 in
set_option maxHeartbeats 1000000 in
theorem validCoaches_law (A : Option Addr) (c : Nat) (zs : List Int) (w : World) (hr : Own w 0 w.heap.size A (zs.map (Value.int .u8))) (hx : zs.length ≤ c ∧ c ≤ maxLen ∧ ∀ z ∈ zs, (Lit.int .u8 z).wf = true) :
    Calls Try.prog 8 #[.slice A zs.length c] w fun e w' => e = .returned (.bool true) ∧ Below w.heap.size w w' := by
  have hl : zs.length ≤ 9223372036854775807 := by have := hx.1; have := hx.2.1; unfold maxLen at this; omega
  have HX := Lib.hid hx
  clear hx
  by_cases h20 : zs.length ≤ 1048576
  · go_enter Try.func8, Try.ntmps8
    go_wp2_with fail
    refine (drawValidCoaches_any _ _ _ _ hr HX.out).mono ?_
    rintro e w1 ⟨B, d, rs, rfl, h6, hdc, htw, ho, hb1⟩
    have HM := Lib.hid (show ∀ r ∈ rs, r.length ≤ 1000000000 from fun r h => by have := htw r h; omega)
    clear htw
    have ho2 := fun (w2 : World) (hb : Below w1.heap.size w1 w2) => ho.past hb
    by_cases hv : coachesB rs = true
    · have HV := Lib.hid hv
      have HT := Lib.hid (coachesB_take hv (rs.length - 1))
      clear hv
      go_wp2_with fail
      refine (impValidCoaches_any _ _ _ _ ho HM.out).mono ?_
      rintro e w2 ⟨rfl, hb2⟩
      rw [HV.out]
      have ho2 := ho.past hb2
      go_wp2_with fail
      refine (specVC_h _ _ _ _ ho2 (by omega) HM.out).mono ?_
      rintro e wS ⟨rfl, hbS⟩
      rw [HV.out]
      have ho2 := ho2.past hbS
      have hb2 := hb2.trans (hbS.mono hb2.size)
      have hb12 := hb1.trans (hb2.mono hb1.size)
      by_cases h0 : rs.length = 0
      · have h1 : ((rs.length : Int) == 0) = true := beq_iff_eq.2 (by omega)
        clear h0
        go_wp2_with fail
        go_ret
        exact ⟨rfl, hb12⟩
      · have h1 : ((rs.length : Int) == 0) = false := beq_eq_false_iff_ne.2 (by omega)
        have hpos : 0 < rs.length := by omega
        obtain ⟨b, o, R, cR, rfl, _, _, _, _⟩ := ho2.open hpos
        obtain ⟨m, hm⟩ : ∃ m, m = rs.length - 1 := ⟨_, rfl⟩
        have hsub : (rs.length : Int) - 1 = (m : Int) := by omega
        have hw : IntKind.i64.wrap ((rs.length : Int) - 1) = (m : Int) := by rw [hsub]; exact IntWalk.i64_in _ (by omega)
        have hsl := slice_uptoR b o rs.length d m (by omega)
        have hml : (rs.take m).length = m := by rw [List.length_take]; omega
        have hi := impValidCoaches_any (some ⟨b, o, none⟩) d (rs.take m) wS (ho2.take m) (fun r h => HM.out r (List.mem_of_mem_take h))
        rw [hml, hm, HT.out, ← hm] at hi
        have HI := Lib.hid hi
        clear h0 hm hml hi
        go_wp2_with fail
        refine HI.out.mono ?_
        rintro e w3 ⟨rfl, hb3⟩
        clear hsub hw hsl
        go_wp2_with fail
        go_ret
        exact ⟨rfl, hb12.trans (hb3.mono hb12.size)⟩
    · have hv' : coachesB rs = false := by simpa using hv
      have HV := Lib.hid hv'
      clear hv hv'
      go_wp2_with fail
      refine (impValidCoaches_any _ _ _ _ ho HM.out).mono ?_
      rintro e w2 ⟨rfl, hb2⟩
      rw [HV.out]
      have ho2 := ho.past hb2
      go_wp2_with fail
      refine (specVC_h _ _ _ _ ho2 (by omega) HM.out).mono ?_
      rintro e wS ⟨rfl, hbS⟩
      rw [HV.out]
      have ho2 := ho2.past hbS
      have hb2 := hb2.trans (hbS.mono hb2.size)
      go_wp2_with fail
      refine (specVC_h _ _ _ _ ho2 (by omega) HM.out).mono ?_
      rintro e wS ⟨rfl, hbS⟩
      rw [HV.out]
      have ho2 := ho2.past hbS
      have hb2 := hb2.trans (hbS.mono hb2.size)
      go_wp2_with fail
      go_ret
      exact ⟨rfl, hb1.trans (hb2.mono hb1.size)⟩
  · go_enter Try.func8, Try.ntmps8
    go_wp2
    go_ret
    exact ⟨rfl, Below.refl _ _⟩
end Go.Proofs.Ytmhoephclceihaa
