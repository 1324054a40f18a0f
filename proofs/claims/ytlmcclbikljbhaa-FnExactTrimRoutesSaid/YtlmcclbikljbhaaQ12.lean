/- Drawn routes, and the walk of the law FnValidRoutes. No condition. -/
import Derived.Test.YtlmcclbikljbhaaQ11
import Derived.Test.YtlmcclbikljbhaaQ4
import Derived.Test.YtlmcclbikljbhaaRt
import Derived.Test.YtlmcclbikljbhaaEq
namespace Go.Proofs.Ytlmcclbikljbhaa
open Go.RowKit

def DrawnR (w : World) (A : Option Addr) (c : Nat) (rs : List (ByteArray × Int)) (w' : World) : Prop :=
  rs.length ≤ 8 ∧ rs.length ≤ c ∧ Short rs ∧ Own w' 0 w'.heap.size A (flat rs) ∧ Below w.heap.size w w'

set_option maxRecDepth 100000 in
theorem drawValidRoutes_any (A : Option Addr) (c : Nat) (zs : List Int) (w : World) (hr : Own w 0 w.heap.size A (zs.map (Value.int .u8))) (hx : zs.length ≤ c ∧ c ≤ maxLen ∧ ∀ z ∈ zs, (Lit.int .u8 z).wf = true) :
    Calls Try.prog 19 #[.slice A zs.length c] w fun e w' => ∃ (A : Option Addr) (c : Nat) (rs : List (ByteArray × Int)), e = .returned (.slice A rs.length c) ∧ DrawnR w A c rs w' := by
  have H := Lib.hid hx
  clear hx
  go_enter Try.func19, Try.ntmps19
  go_wp2_with fail
  refine (newReader_any _ _ _ _ hr H.out).mono ?_
  rintro e w1 ⟨rfl, hrd, hb1⟩
  go_wp2_with fail
  refine (someRoutes_any _ 0 _ hrd (by omega)).mono ?_
  rintro e w2 ⟨A2, c2, rs, rfl, h6, hc, htw, hm, _, hg⟩
  go_wp2_with fail
  go_ret
  exact ⟨A2, c2, rs, rfl, h6, hc, htw, hm.row, hb1.grown hg hb1.size (fun k hk => by injection hk with hk; omega)⟩

set_option maxRecDepth 100000 in
theorem drawTrimRoutes_any (A : Option Addr) (c : Nat) (zs : List Int) (w : World) (hr : Own w 0 w.heap.size A (zs.map (Value.int .u8))) (hx : zs.length ≤ c ∧ c ≤ maxLen ∧ ∀ z ∈ zs, (Lit.int .u8 z).wf = true) :
    Calls Try.prog 25 #[.slice A zs.length c] w fun e w' => ∃ (A : Option Addr) (c : Nat) (rs : List (ByteArray × Int)), e = .returned (.slice A rs.length c) ∧ DrawnR w A c rs w' := by
  have H := Lib.hid hx
  clear hx
  go_enter Try.func25, Try.ntmps25
  go_wp2_with fail
  refine (newReader_any _ _ _ _ hr H.out).mono ?_
  rintro e w1 ⟨rfl, hrd, hb1⟩
  go_wp2_with fail
  refine (someRoutes_any _ 0 _ hrd (by omega)).mono ?_
  rintro e w2 ⟨A2, c2, rs, rfl, h6, hc, htw, hm, _, hg⟩
  go_wp2_with fail
  go_ret
  exact ⟨A2, c2, rs, rfl, h6, hc, htw, hm.row, hb1.grown hg hb1.size (fun k hk => by injection hk with hk; omega)⟩

set_option maxRecDepth 100000 in
set_option maxHeartbeats 1000000 in
theorem drawOfficeOf_any (A : Option Addr) (c : Nat) (zs : List Int) (w : World) (hr : Own w 0 w.heap.size A (zs.map (Value.int .u8))) (hx : zs.length ≤ c ∧ c ≤ maxLen ∧ ∀ z ∈ zs, (Lit.int .u8 z).wf = true) :
    Calls Try.prog 22 #[.slice A zs.length c] w fun e w' => ∃ (A : Option Addr) (c : Nat) (rs : List (ByteArray × Int)) (s : ByteArray), e = .returned (.tuple #[.slice A rs.length c, .string s]) ∧ s.size ≤ 6 ∧ DrawnR w A c rs w' := by
  have H := Lib.hid hx
  clear hx
  go_enter Try.func22, Try.ntmps22
  go_wp2_with fail
  refine (newReader_any _ _ _ _ hr H.out).mono ?_
  rintro e w1 ⟨rfl, hrd, hb1⟩
  have hgl := hrd.lt
  have hB1 := Lib.hid hb1
  have hz1 := hb1.size
  clear hb1
  go_wp2_with fail
  refine (someRoutes_any _ 0 _ hrd (by omega)).mono ?_
  rintro e w2 ⟨A2, c2, rs, rfl, h6, hc, htw, hm, ⟨q, hq, hrd2⟩, hg⟩
  have HTW := Lib.hid htw
  have HM := Lib.hid (And.intro hm hg)
  have hg12 := hg.size
  clear htw hm hg hrd
  go_wp2
  go_loopw [6] (fun v wr => ∃ (s : ByteArray) (q : Nat), v = .string s ∧ s.size ≤ 4 ∧ q ≤ 200 + s.size ∧ Rd wr w.heap.size q ∧ w2.grownBy wr (some w.heap.size)) (fun v _ => 4 - (match v with | .string s => s.size | _ => 0))
  case atStart => exact ⟨ByteArray.empty, q, rfl, by decide, by omega, hrd2, World.grownBy.refl _ _⟩
  case round =>
    obtain ⟨s, q3, rfl, hs4, hq3, hrd3, hg3⟩ := hrel
    clear hrd2
    have HG3 := Lib.hid hg3
    have hg3z := hg3.size
    clear hg3
    by_cases hlt : s.size < 4
    · go_wp2_with fail
      refine (of_mem _ q3 wr hrd3 (by omega) [⟨#[49]⟩, ⟨#[50]⟩, ⟨#[48]⟩, ⟨#[49]⟩, ⟨#[51]⟩] (by decide) (by decide) 5 _ rfl rfl _ rfl).mono ?_
      rintro e w4 ⟨x, rfl, hx, hrd4, hg4⟩
      have hx1 : x.size = 1 := by simp at hx; rcases hx with rfl | rfl | rfl | rfl | rfl <;> rfl
      have HX := Lib.hid hx1
      have hx2 : x.size ≤ 1 := by omega
      have HG4 := Lib.hid (grown_trans HG3.out hg4)
      clear hx hx1 hg4 hrd3
      go_wp2
      go_roundw
      case rel =>
        refine ⟨_, q3 + 1, rfl, ?_, ?_, hrd4, HG4.out⟩
        · rw [ByteArray.size_append]; have := HX.out; omega
        · rw [ByteArray.size_append]; have := HX.out; omega
      case measure => have := HX.out; simp only [ByteArray.size_append]; omega
    · go_wp2_with fail
      refine (pick_any _ q3 20 _ hrd3 (by omega) (by omega)).mono ?_
      rintro e w4 ⟨y, rfl, _, hrd4, hg4⟩
      have HG4 := Lib.hid (grown_trans HG3.out hg4)
      have hg4z := hg4.size
      clear hg4 hrd3
      have fin : ∀ w5 : World, w2.grownBy w5 (some w.heap.size) → DrawnR w A2 c2 rs w5 := fun w5 hg5 =>
        ⟨h6, hc, HTW.out, ((HM.out.1.apart (Nat.le_refl _) hg5 (fun i hi => by injection hi with hi; omega)).more hg5.size).row, hB1.out.grown (grown_trans HM.out.2 hg5) hz1 (fun k hk => by injection hk with hk; omega)⟩
      have FIN := Lib.hid fin
      clear fin
      by_cases hy : y = 0
      · have hyy : (y == 0) = true := beq_iff_eq.2 hy
        clear hy
        go_wp2_with fail
        refine (mutate_any _ _ s _ hrd4 (by omega) (by omega)).mono ?_
        rintro e w5 ⟨t, rfl, ht, _, hg5⟩
        have HF := Lib.hid (FIN.out w5 (grown_trans HG4.out hg5))
        clear hg5
        go_wp2_with fail
        go_ret2
        exact ⟨A2, c2, rs, t, rfl, by omega, HF.out⟩
      · have hyy : (y == 0) = false := beq_eq_false_iff_ne.2 hy
        clear hy
        go_wp2
        go_ret2
        exact ⟨A2, c2, rs, s, rfl, by omega, FIN.out w4 HG4.out⟩

theorem hd_take {rs : List (ByteArray × Int)} {m i : Nat} (h : i < m) : hd (rs.take m) i = hd rs i := by
  simp only [hd, List.getD, List.getElem?_take, if_pos h]
theorem of_take {rs : List (ByteArray × Int)} {m i : Nat} (h : i < m) : of_ (rs.take m) i = of_ rs i := by
  simp only [of_, List.getD, List.getElem?_take, if_pos h]
theorem okR_take {rs : List (ByteArray × Int)} {m i : Nat} (h : i < m) : okR (rs.take m) i = okR rs i := by
  simp only [okR, hd_take h, of_take h]
  congr 1
  apply Bool.eq_iff_iff.2
  simp only [List.all_eq_true, List.mem_range]
  constructor
  · intro hh j hj; have := hh j hj; rwa [hd_take (by omega)] at this
  · intro hh j hj; have := hh j hj; rwa [hd_take (by omega)]
theorem routesB_take {rs : List (ByteArray × Int)} (h : routesB rs = true) (m : Nat) : routesB (rs.take m) = true := by
  simp only [routesB, Bool.and_eq_true, decide_eq_true_eq, List.all_eq_true, List.mem_range, List.length_take] at h ⊢
  exact ⟨by omega, fun i hi => by rw [okR_take (by omega)]; exact h.2 i (by omega)⟩

theorem flat_take (rs : List (ByteArray × Int)) (m : Nat) : (flat rs).take (2 * m) = flat (rs.take m) := by
  induction rs generalizing m with
  | nil => simp [flat]
  | cons r rs ih =>
    cases m with
    | zero => simp [flat]
    | succ m =>
      rw [flat_cons, List.take_succ_cons, flat_cons, ← ih m, show 2 * (m + 1) = 2 + 2 * m by omega]
      rw [List.take_append, List.take_of_length_le (by simp)]
      simp
theorem slice_uptoQ (b o n c j : Nat) (h : j ≤ c) (W : World) :
    (Instr.slice 31 (.slice (some ⟨b, o, none⟩) n c) none (some (.int .i64 (j : Int))) none).run Try.prog W = .ok (.slice (some ⟨b, o, none⟩) j c) W := by
  have h1 : (0 : Int) ≤ (j : Int) := by omega
  have h2 : (j : Int) ≤ (c : Int) := by omega
  go_simp

set_option maxRecDepth 100000 in
set_option maxHeartbeats 1000000 in
theorem validRoutes_law (A : Option Addr) (c : Nat) (zs : List Int) (w : World) (hr : Own w 0 w.heap.size A (zs.map (Value.int .u8))) (hx : zs.length ≤ c ∧ c ≤ maxLen ∧ ∀ z ∈ zs, (Lit.int .u8 z).wf = true) :
    Calls Try.prog 4 #[.slice A zs.length c] w fun e w' => e = .returned (.bool true) ∧ Below w.heap.size w w' := by
  have hl : zs.length ≤ 9223372036854775807 := by have := hx.1; have := hx.2.1; unfold maxLen at this; omega
  have HX := Lib.hid hx
  clear hx
  by_cases h20 : zs.length ≤ 1048576
  · go_enter Try.func4, Try.ntmps4
    go_wp2_with fail
    refine (drawValidRoutes_any _ _ _ _ hr HX.out).mono ?_
    rintro e w1 ⟨B, d, rs, rfl, h8, hdc, htw, ho, hb1⟩
    have HM := Lib.hid (show ∀ r ∈ rs, r.1.size ≤ 9000000000000000000 from fun r h => by have := htw r h; omega)
    clear htw
    by_cases hv : routesB rs = true
    · have HV := Lib.hid hv
      have HT := Lib.hid (routesB_take hv (rs.length - 1))
      clear hv
      go_wp2_with fail
      refine (impValidRoutes_any _ _ _ _ ho hdc HM.out).mono ?_
      rintro e w2 ⟨rfl, hb2⟩
      rw [HV.out]
      have ho2 := ho.past hb2
      go_wp2_with fail
      refine (specValidRoutes2_any _ _ _ _ ho2 (by omega) HM.out).mono ?_
      rintro e w3 ⟨rfl, n3, hw3⟩
      rw [HV.out]
      have hb3 : Below w2.heap.size w2 w3 := by rw [hw3]; exact below_drewN (Below.refl _ _) n3
      have ho3 := ho2.past hb3
      have hb13 := (hb1.trans (hb2.mono hb1.size)).trans (hb3.mono (Nat.le_trans hb1.size hb2.size))
      clear hw3 ho ho2
      by_cases h0 : rs.length = 0
      · have h1 : ((rs.length : Int) == 0) = true := beq_iff_eq.2 (by omega)
        clear h0
        go_wp2_with fail
        go_ret
        exact ⟨rfl, hb13⟩
      · have h1 : ((rs.length : Int) == 0) = false := beq_eq_false_iff_ne.2 (by omega)
        obtain ⟨b, o, rfl, _, _⟩ := ho3.open (by rw [flat_length]; omega)
        obtain ⟨m, hm⟩ : ∃ m, m = rs.length - 1 := ⟨_, rfl⟩
        have hsub : (rs.length : Int) - 1 = (m : Int) := by omega
        have hw : IntKind.i64.wrap ((rs.length : Int) - 1) = (m : Int) := by rw [hsub]; exact IntWalk.i64_in _ (by omega)
        have hsl := slice_uptoQ b o rs.length d m (by omega)
        have hml : (rs.take m).length = m := by rw [List.length_take]; omega
        have hrow : Own w3 0 w3.heap.size (some ⟨b, o, none⟩) (flat (rs.take m)) := by rw [← flat_take]; exact ho3.take _
        have hi := impValidRoutes_any (some ⟨b, o, none⟩) d (rs.take m) w3 hrow (by omega) (fun r h => HM.out r (List.mem_of_mem_take h))
        rw [hml, hm, HT.out, ← hm] at hi
        have HI := Lib.hid hi
        clear h0 hm hml hi hrow
        go_wp2_with fail
        refine HI.out.mono ?_
        rintro e w4 ⟨rfl, hb4⟩
        clear hsub hw hsl
        go_wp2_with fail
        go_ret
        exact ⟨rfl, hb13.trans (hb4.mono hb13.size)⟩
    · have hv' : routesB rs = false := by simpa using hv
      have HV := Lib.hid hv'
      clear hv hv'
      go_wp2_with fail
      refine (impValidRoutes_any _ _ _ _ ho hdc HM.out).mono ?_
      rintro e w2 ⟨rfl, hb2⟩
      rw [HV.out]
      have ho2 := ho.past hb2
      go_wp2_with fail
      refine (specValidRoutes2_any _ _ _ _ ho2 (by omega) HM.out).mono ?_
      rintro e w3 ⟨rfl, n3, hw3⟩
      rw [HV.out]
      have hb3 : Below w2.heap.size w2 w3 := by rw [hw3]; exact below_drewN (Below.refl _ _) n3
      have ho3 := ho2.past hb3
      have hb13 := (hb1.trans (hb2.mono hb1.size)).trans (hb3.mono (Nat.le_trans hb1.size hb2.size))
      clear hw3
      go_wp2_with fail
      refine (specValidRoutes2_any _ _ _ _ ho3 (by omega) HM.out).mono ?_
      rintro e w4 ⟨rfl, n4, hw4⟩
      rw [HV.out]
      have hb4 : Below w3.heap.size w3 w4 := by rw [hw4]; exact below_drewN (Below.refl _ _) n4
      clear hw4
      go_wp2_with fail
      go_ret
      exact ⟨rfl, hb13.trans (hb4.mono hb13.size)⟩
  · go_enter Try.func4, Try.ntmps4
    go_wp2
    go_ret
    exact ⟨rfl, Below.refl _ _⟩
end Go.Proofs.Ytlmcclbikljbhaa
