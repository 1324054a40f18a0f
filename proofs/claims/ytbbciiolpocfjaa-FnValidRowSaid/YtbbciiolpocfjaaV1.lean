/- The walk of the law FnValidRow. No condition. -/
import Derived.Test.YtbbciiolpocfjaaS10
namespace Go.Proofs.Ytbbciiolpocfjaa
open Go.RowKit

set_option maxRecDepth 100000 in
theorem drawValidRow_any (A : Option Addr) (c : Nat) (zs : List Int) (w : World) (hr : Own w 0 w.heap.size A (zs.map (Value.int .u8))) (hx : zs.length ≤ c ∧ c ≤ maxLen ∧ ∀ z ∈ zs, (Lit.int .u8 z).wf = true) :
    Calls Try.prog 6 #[.slice A zs.length c] w fun e w' => ∃ (A : Option Addr) (c : Nat) (ds : List Int), e = .returned (.slice A ds.length c) ∧ ds.length ≤ 10 ∧ ds.length ≤ c ∧ Own w' 0 w'.heap.size A (ds.map (Value.int .i64)) ∧ Below w.heap.size w w' := by
  have H := Lib.hid hx
  clear hx
  go_enter Try.func6, Try.ntmps6
  go_wp2_with fail
  refine (newReader_any _ _ _ _ hr H.out).mono ?_
  rintro e w1 ⟨rfl, hrd, hb1⟩
  go_wp2_with fail
  refine (someRow_any _ 0 _ hrd (by omega)).mono ?_
  rintro e w2 ⟨A2, c2, ds, rfl, h10, hc, ho, _, hg⟩
  go_wp2_with fail
  go_ret
  exact ⟨A2, c2, ds, rfl, h10, hc, ho.row, hb1.grown hg hb1.size (fun k hk => by injection hk with hk; omega)⟩

set_option maxRecDepth 100000 in
theorem validRow_law (A : Option Addr) (c : Nat) (zs : List Int) (w : World) (hr : Own w 0 w.heap.size A (zs.map (Value.int .u8))) (hx : zs.length ≤ c ∧ c ≤ maxLen ∧ ∀ z ∈ zs, (Lit.int .u8 z).wf = true) :
    Calls Try.prog 3 #[.slice A zs.length c] w fun e w' => e = .returned (.bool true) ∧ Below w.heap.size w w' := by
  have hl : zs.length ≤ 9223372036854775807 := by have := hx.1; have := hx.2.1; unfold maxLen at this; omega
  have HX := Lib.hid hx
  clear hx
  by_cases h20 : zs.length ≤ 1048576
  · go_enter Try.func3, Try.ntmps3
    go_wp2_with fail
    refine (drawValidRow_any _ _ _ _ hr HX.out).mono ?_
    rintro e w1 ⟨B, d, ds, rfl, h10, hdc, ho, hb1⟩
    by_cases hv : rowB 9 ds = true
    · have HV := Lib.hid hv
      have HR := Lib.hid (rowB_rev hv)
      clear hv
      go_wp2_with fail
      refine (impValidRow_any _ _ _ _ ho hdc).mono ?_
      rintro e w2 ⟨rfl, rfl⟩
      rw [HV.out]
      go_wp2_with fail
      refine (specValidRow9_any _ _ _ _ ho (by omega)).mono ?_
      rintro e w2 ⟨rfl, rfl⟩
      rw [HV.out]
      go_wp2_with fail
      refine (backwards_any _ _ _ _ ho (by omega)).mono ?_
      rintro e w3 ⟨A3, c3, rfl, hc3, ho3, hb3⟩
      have hi := impValidRow_any A3 c3 ds.reverse w3 ho3.row (by rw [List.length_reverse]; exact hc3)
      rw [List.length_reverse, HR.out] at hi
      have HI := Lib.hid hi
      clear hi
      go_wp2_with fail
      refine HI.out.mono ?_
      rintro e w4 ⟨rfl, rfl⟩
      go_wp2_with fail
      go_ret
      exact ⟨rfl, hb1.trans (hb3.mono hb1.size)⟩
    · have hv' : rowB 9 ds = false := by simpa using hv
      have HV := Lib.hid hv'
      clear hv hv'
      go_wp2_with fail
      refine (impValidRow_any _ _ _ _ ho hdc).mono ?_
      rintro e w2 ⟨rfl, rfl⟩
      rw [HV.out]
      go_wp2_with fail
      refine (specValidRow9_any _ _ _ _ ho (by omega)).mono ?_
      rintro e w2 ⟨rfl, rfl⟩
      rw [HV.out]
      go_wp2_with fail
      refine (specValidRow9_any _ _ _ _ ho (by omega)).mono ?_
      rintro e w2 ⟨rfl, rfl⟩
      rw [HV.out]
      go_wp2_with fail
      go_ret
      exact ⟨rfl, hb1⟩
  · go_enter Try.func3, Try.ntmps3
    go_wp2
    go_ret
    exact ⟨rfl, Below.refl _ _⟩
end Go.Proofs.Ytbbciiolpocfjaa
