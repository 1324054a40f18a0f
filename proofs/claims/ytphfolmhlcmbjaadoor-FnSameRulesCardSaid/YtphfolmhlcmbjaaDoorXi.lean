/- Drawn rules; the walk of the law FnValidRules. No condition. -/
import Derived.Test.YtphfolmhlcmbjaaDoorXe
import Derived.Test.YtphfolmhlcmbjaaDoorX5
import Derived.Test.YtphfolmhlcmbjaaDoorRt
import Derived.Test.YtphfolmhlcmbjaaDoorEq
namespace Go.Proofs.YtphfolmhlcmbjaaDoor
open Go.RowKit

def DrawnU (w : World) (A : Option Addr) (c : Nat) (rs : List (ByteArray × Int)) (w' : World) : Prop :=
  rs.length ≤ 8 ∧ rs.length ≤ c ∧ ShortU rs ∧ Own w' 0 w'.heap.size A (flat rs) ∧ Below w.heap.size w w'
theorem ShortU.le {rs : List (ByteArray × Int)} (h : ShortU rs) : ∀ r ∈ rs, r.1.size ≤ 1048576 := fun r hr => by have := h r hr; omega

set_option maxRecDepth 100000 in
theorem drawValidRules_any (A : Option Addr) (c : Nat) (zs : List Int) (w : World) (hr : Own w 0 w.heap.size A (zs.map (Value.int .u8))) (hx : zs.length ≤ c ∧ c ≤ maxLen ∧ ∀ z ∈ zs, (Lit.int .u8 z).wf = true) :
    Calls Tryd.prog 13 #[.slice A zs.length c] w fun e w' => ∃ (A : Option Addr) (c : Nat) (rs : List (ByteArray × Int)), e = .returned (.slice A rs.length c) ∧ DrawnU w A c rs w' := by
  have H := Lib.hid hx
  clear hx
  go_enter Tryd.func13, Tryd.ntmps13
  go_wp2_with fail
  refine (newReader_any _ _ _ _ hr H.out).mono ?_
  rintro e w1 ⟨rfl, hrd, hb1⟩
  go_wp2_with fail
  refine (someRules_any _ 0 _ hrd (by omega)).mono ?_
  rintro e w2 ⟨A2, c2, rs, rfl, h6, hc, htw, hm, _, hg⟩
  go_wp2_with fail
  go_ret
  exact ⟨A2, c2, rs, rfl, h6, hc, htw, hm.row, hb1.grown hg hb1.size (fun k hk => by injection hk with hk; omega)⟩

set_option maxRecDepth 100000 in
theorem drawShadowedOf_any (A : Option Addr) (c : Nat) (zs : List Int) (w : World) (hr : Own w 0 w.heap.size A (zs.map (Value.int .u8))) (hx : zs.length ≤ c ∧ c ≤ maxLen ∧ ∀ z ∈ zs, (Lit.int .u8 z).wf = true) :
    Calls Tryd.prog 22 #[.slice A zs.length c] w fun e w' => ∃ (A : Option Addr) (c : Nat) (rs : List (ByteArray × Int)), e = .returned (.slice A rs.length c) ∧ DrawnU w A c rs w' := by
  have H := Lib.hid hx
  clear hx
  go_enter Tryd.func22, Tryd.ntmps22
  go_wp2_with fail
  refine (newReader_any _ _ _ _ hr H.out).mono ?_
  rintro e w1 ⟨rfl, hrd, hb1⟩
  go_wp2_with fail
  refine (someRules_any _ 0 _ hrd (by omega)).mono ?_
  rintro e w2 ⟨A2, c2, rs, rfl, h6, hc, htw, hm, _, hg⟩
  go_wp2_with fail
  go_ret
  exact ⟨A2, c2, rs, rfl, h6, hc, htw, hm.row, hb1.grown hg hb1.size (fun k hk => by injection hk with hk; omega)⟩

set_option maxRecDepth 100000 in
theorem drawTrimRules_any (A : Option Addr) (c : Nat) (zs : List Int) (w : World) (hr : Own w 0 w.heap.size A (zs.map (Value.int .u8))) (hx : zs.length ≤ c ∧ c ≤ maxLen ∧ ∀ z ∈ zs, (Lit.int .u8 z).wf = true) :
    Calls Tryd.prog 28 #[.slice A zs.length c] w fun e w' => ∃ (A : Option Addr) (c : Nat) (rs : List (ByteArray × Int)), e = .returned (.slice A rs.length c) ∧ DrawnU w A c rs w' := by
  have H := Lib.hid hx
  clear hx
  go_enter Tryd.func28, Tryd.ntmps28
  go_wp2_with fail
  refine (newReader_any _ _ _ _ hr H.out).mono ?_
  rintro e w1 ⟨rfl, hrd, hb1⟩
  go_wp2_with fail
  refine (someRules_any _ 0 _ hrd (by omega)).mono ?_
  rintro e w2 ⟨A2, c2, rs, rfl, h6, hc, htw, hm, _, hg⟩
  go_wp2_with fail
  go_ret
  exact ⟨A2, c2, rs, rfl, h6, hc, htw, hm.row, hb1.grown hg hb1.size (fun k hk => by injection hk with hk; omega)⟩

theorem slice_toU0 (b o n c j : Nat) (h : j ≤ c) (W : World) :
    (Instr.slice 23 (.slice (some ⟨b, o, none⟩) n c) none (some (.int .i64 (j : Int))) none).run Tryd.prog W = .ok (.slice (some ⟨b, o, none⟩) j c) W := by
  have h1 : (0 : Int) ≤ (j : Int) := by omega
  have h2 : (j : Int) ≤ (c : Int) := by omega
  go_simp
theorem flatV_take (rs : List (ByteArray × Int)) (m : Nat) : (flat rs).take (2 * m) = flat (rs.take m) := by
  induction rs generalizing m with
  | nil => simp [flat]
  | cons r rs ih =>
    cases m with
    | zero => simp [flat]
    | succ m =>
      rw [flat_cons, List.take_succ_cons, flat_cons, ← ih m, show 2 * (m + 1) = 2 + 2 * m by omega]
      rw [List.take_append, List.take_of_length_le (by simp)]
      simp

set_option maxRecDepth 100000 in
set_option maxHeartbeats 1000000 in
theorem validRules_law (A : Option Addr) (c : Nat) (zs : List Int) (w : World) (hr : Own w 0 w.heap.size A (zs.map (Value.int .u8))) (hx : zs.length ≤ c ∧ c ≤ maxLen ∧ ∀ z ∈ zs, (Lit.int .u8 z).wf = true) :
    Calls Tryd.prog 3 #[.slice A zs.length c] w fun e w' => e = .returned (.bool true) ∧ Below w.heap.size w w' := by
  have hl : zs.length ≤ 9223372036854775807 := by have := hx.1; have := hx.2.1; unfold maxLen at this; omega
  have HX := Lib.hid hx
  clear hx
  by_cases h20 : zs.length ≤ 1048576
  · go_enter Tryd.func3, Tryd.ntmps3
    go_wp2_with fail
    refine (drawValidRules_any _ _ _ _ hr HX.out).mono ?_
    rintro e w1 ⟨B, d, rs, rfl, h8, hdc, htw, ho, hb1⟩
    have HM := Lib.hid htw.le
    clear htw
    by_cases hv : rulesB rs = true
    · have HV := Lib.hid hv
      have HT := Lib.hid (rulesB_sub hv (List.take_sublist (rs.length - 1) rs))
      clear hv
      go_wp2_with fail
      refine (impValidRules_any _ _ _ _ ho (fun r h => Nat.le_trans (HM.out r h) (by omega))).mono ?_
      rintro e w2 ⟨rfl, hb2⟩
      rw [HV.out]
      have ho2 := ho.past hb2
      go_wp2_with fail
      refine (specValidRules_any _ _ _ _ ho2 (by omega) HM.out).mono ?_
      rintro e w3 ⟨rfl, n3, hw3⟩
      rw [HV.out]
      have hb3 : Below w2.heap.size w2 w3 := by rw [hw3]; exact below_drewN (Below.refl _ _) n3
      have ho3 := ho2.past hb3
      have hb13 := (hb1.trans (hb2.mono hb1.size)).trans (hb3.mono (Nat.le_trans hb1.size hb2.size))
      clear hw3 ho ho2
      by_cases h0 : rs.length = 0
      · have h1 : ((rs.length : Int) == 0) = true := beq_iff_eq.2 (by omega)
        clear h0
        go_wp2_with fail
        go_ret
        exact ⟨rfl, hb13⟩
      · have h1 : ((rs.length : Int) == 0) = false := beq_eq_false_iff_ne.2 (by omega)
        obtain ⟨b, o, rfl, _, _⟩ := ho3.open (by rw [flat_length]; omega)
        obtain ⟨m, hm⟩ : ∃ m, m = rs.length - 1 := ⟨_, rfl⟩
        have hsub : (rs.length : Int) - 1 = (m : Int) := by omega
        have hw : IntKind.i64.wrap ((rs.length : Int) - 1) = (m : Int) := by rw [hsub]; exact IntWalk.i64_in _ (by omega)
        have hsl := slice_toU0 b o rs.length d m (by omega)
        have hml : (rs.take m).length = m := by rw [List.length_take]; omega
        have hrow : Own w3 0 w3.heap.size (some ⟨b, o, none⟩) (flat (rs.take m)) := by rw [← flatV_take]; exact ho3.take _
        have hi := impValidRules_any (some ⟨b, o, none⟩) d (rs.take m) w3 hrow (fun r h => Nat.le_trans (HM.out r (List.mem_of_mem_take h)) (by omega))
        rw [hml, hm, HT.out, ← hm] at hi
        have HI := Lib.hid hi
        clear h0 hm hml hi hrow
        go_wp2_with fail
        refine HI.out.mono ?_
        rintro e w4 ⟨rfl, hb4⟩
        clear hsub hw hsl
        go_wp2_with fail
        go_ret
        exact ⟨rfl, hb13.trans (hb4.mono hb13.size)⟩
    · have hv' : rulesB rs = false := by simpa using hv
      have HV := Lib.hid hv'
      clear hv hv'
      go_wp2_with fail
      refine (impValidRules_any _ _ _ _ ho (fun r h => Nat.le_trans (HM.out r h) (by omega))).mono ?_
      rintro e w2 ⟨rfl, hb2⟩
      rw [HV.out]
      have ho2 := ho.past hb2
      go_wp2_with fail
      refine (specValidRules_any _ _ _ _ ho2 (by omega) HM.out).mono ?_
      rintro e w3 ⟨rfl, n3, hw3⟩
      rw [HV.out]
      have hb3 : Below w2.heap.size w2 w3 := by rw [hw3]; exact below_drewN (Below.refl _ _) n3
      have ho3 := ho2.past hb3
      have hb13 := (hb1.trans (hb2.mono hb1.size)).trans (hb3.mono (Nat.le_trans hb1.size hb2.size))
      clear hw3
      go_wp2_with fail
      refine (specValidRules_any _ _ _ _ ho3 (by omega) HM.out).mono ?_
      rintro e w4 ⟨rfl, n4, hw4⟩
      rw [HV.out]
      have hb4 : Below w3.heap.size w3 w4 := by rw [hw4]; exact below_drewN (Below.refl _ _) n4
      clear hw4
      go_wp2_with fail
      go_ret
      exact ⟨rfl, hb13.trans (hb4.mono hb13.size)⟩
  · go_enter Tryd.func3, Tryd.ntmps3
    go_wp2
    go_ret
    exact ⟨rfl, Below.refl _ _⟩
end Go.Proofs.YtphfolmhlcmbjaaDoor
