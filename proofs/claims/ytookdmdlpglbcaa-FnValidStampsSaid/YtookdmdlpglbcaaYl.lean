/- The walk of the law FnValidStamps. No condition. -/
import Derived.Test.YtookdmdlpglbcaaY1
import Derived.Test.YtookdmdlpglbcaaYk
namespace Go.Proofs.Ytookdmdlpglbcaa
open Go.RowKit

theorem slice_uptoI (b o n c j : Nat) (h : j ≤ c) (W : World) :
    (Instr.slice 22 (.slice (some ⟨b, o, none⟩) n c) none (some (.int .i64 (j : Int))) none).run Try.prog W = .ok (.slice (some ⟨b, o, none⟩) j c) W := by
  have h1 : (0 : Int) ≤ (j : Int) := by omega
  have h2 : (j : Int) ≤ (c : Int) := by omega
  go_simp
theorem ints_take {w : World} {B : Nat} {A : Option Addr} {zs : List Int} (h : Ints w B A zs) (m : Nat) : Ints w B A (zs.take m) := by
  have := Own.take h m
  rw [← List.map_take] at this; exact this
theorem specVS_ret (A : Option Addr) (c : Nat) (zs : List Int) (w : World) (hr : Ints w w.heap.size A zs) (hl : zs.length ≤ 9000000000000000000) (b : Bool) (hb : stampsB zs = b) :
    Calls Try.prog 11 #[.slice A zs.length c] w fun e w' => e = .returned (.bool b) ∧ Below w.heap.size w w' := by
  rw [← hb]; exact specVS_any A c zs w hr hl
theorem impVS_ret (A : Option Addr) (c : Nat) (zs : List Int) (w : World) (hr : Ints w w.heap.size A zs) (b : Bool) (hb : stampsB zs = b) :
    Calls Try.prog 13 #[.slice A zs.length c] w fun e w' => e = .returned (.bool b) ∧ w = w' := by
  rw [← hb]; exact impVS_any A c zs w hr

set_option maxRecDepth 100000 in
set_option maxHeartbeats 1000000 in
theorem fnValidStamps_law (A : Option Addr) (c : Nat) (zs : List Int) (w : World) (hr : Own w 0 w.heap.size A (zs.map (Value.int .u8))) (hx : zs.length ≤ c ∧ c ≤ maxLen ∧ ∀ z ∈ zs, (Lit.int .u8 z).wf = true) :
    Calls Try.prog 10 #[.slice A zs.length c] w fun e w' => e = .returned (.bool true) ∧ Below w.heap.size w w' := by
  have hl : zs.length ≤ 9223372036854775807 := by have := hx.1; have := hx.2.1; unfold maxLen at this; omega
  have HX := Lib.hid hx
  clear hx
  by_cases h20 : zs.length ≤ 1048576
  · go_enter Try.func10, Try.ntmps10
    go_wp2_with fail
    refine (drawValidStamps_any _ _ _ _ hr HX.out).mono ?_
    rintro e w1 ⟨B, d, rs, rfl, h6, hdc, hsm, ho, hb1⟩
    clear hsm
    by_cases hv : stampsB rs = true
    · have HV := Lib.hid hv
      have hlen := stampsB_len hv
      clear hv
      go_wp2_with fail
      refine (impVS_ret _ _ _ _ ho _ HV.out).mono ?_
      rintro e w2 ⟨rfl, rfl⟩
      go_wp2_with fail
      refine (specVS_ret _ _ _ _ ho (by omega) _ HV.out).mono ?_
      rintro e w3 ⟨rfl, hb3⟩
      have ho3 := ho.past hb3
      have HB := Lib.hid (hb1.trans (hb3.mono hb1.size))
      clear hb1 hb3 ho
      by_cases h1 : rs.length = 1
      · have h1' : ((rs.length : Int) == 1) = true := beq_iff_eq.2 (by omega)
        clear h1
        go_wp2_with fail
        go_ret
        exact ⟨rfl, HB.out⟩
      · have h1' : ((rs.length : Int) == 1) = false := beq_eq_false_iff_ne.2 (by omega)
        obtain ⟨b, o, rfl, _, _⟩ := ho3.open (by rw [List.length_map]; omega)
        obtain ⟨m, hm⟩ : ∃ m, m = rs.length - 1 := ⟨_, rfl⟩
        have hsub : (rs.length : Int) - 1 = (m : Int) := by omega
        have hw : IntKind.i64.wrap ((rs.length : Int) - 1) = (m : Int) := by rw [hsub]; exact IntWalk.i64_in _ (by omega)
        have hsl := slice_uptoI b o rs.length d m (by omega)
        have hml : (rs.take m).length = m := by rw [List.length_take]; omega
        have hi := impVS_ret (some ⟨b, o, none⟩) d (rs.take m) w3 (ints_take ho3 m) true (stampsB_take HV.out (by omega) (by omega))
        rw [hml] at hi
        have HI := Lib.hid hi
        clear h1 hm hml hi ho3
        go_wp2_with fail
        refine HI.out.mono ?_
        rintro e w4 ⟨rfl, rfl⟩
        clear hsub hw hsl
        go_wp2_with fail
        go_ret
        exact ⟨rfl, HB.out⟩
    · have hv' : stampsB rs = false := by simpa using hv
      have HV := Lib.hid hv'
      clear hv hv'
      go_wp2_with fail
      refine (impVS_ret _ _ _ _ ho _ HV.out).mono ?_
      rintro e w2 ⟨rfl, rfl⟩
      go_wp2_with fail
      refine (specVS_ret _ _ _ _ ho (by omega) _ HV.out).mono ?_
      rintro e w3 ⟨rfl, hb3⟩
      have ho3 := ho.past hb3
      go_wp2_with fail
      refine (specVS_ret _ _ _ _ ho3 (by omega) _ HV.out).mono ?_
      rintro e w4 ⟨rfl, hb4⟩
      have hb13 := hb1.trans (hb3.mono hb1.size)
      go_wp2_with fail
      go_ret
      exact ⟨rfl, hb13.trans (hb4.mono hb13.size)⟩
  · go_enter Try.func10, Try.ntmps10
    go_wp2
    go_ret
    exact ⟨rfl, Below.refl _ _⟩
end Go.Proofs.Ytookdmdlpglbcaa
