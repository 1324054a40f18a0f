/- The walk of the law FnExactCheckOf. No condition. -/
import Derived.Test.YtfcbenmhakobpaaA4
namespace Go.Proofs.Ytfcbenmhakobpaa
open Go.RowKit

theorem eqI_refl (xs : List Int) : eqI xs xs = true := by simp [eqI]

set_option maxHeartbeats 1000000 in
theorem exactCheckOf_law (A : Option Addr) (c : Nat) (zs : List Int) (w : World) (hr : Ints w w.heap.size A zs) (hx : zs.length ≤ c ∧ c ≤ maxLen ∧ ∀ z ∈ zs, (Lit.int .i64 z).wf = true) :
    Calls Try.prog 4 #[.slice A zs.length c] w fun e w' => e = .returned (.bool true) ∧ Below w.heap.size w w' := by
  have hl : zs.length ≤ 9223372036854775807 := by have := hx.1; have := hx.2.1; unfold maxLen at this; omega
  clear hx
  by_cases h20 : zs.length ≤ 1048576
  · have hlt : zs.length ≤ 1000000000000 := by omega
    go_enter Try.func4, Try.ntmps4
    go_wp2_with fail
    refine (toIntS_any _ _ _ _ hr hlt).mono ?_
    rintro e w1 ⟨A1, c1, rfl, ho1, hb1⟩
    go_wp2_with fail
    refine (specCheckOf_any _ _ _ _ ho1.row (by omega)).mono ?_
    rintro e w2 ⟨rfl, rfl⟩
    go_wp2_with fail
    refine (toIntS_any _ _ _ _ (hr.past hb1) hlt).mono ?_
    rintro e w3 ⟨A3, c3, rfl, ho3, hb3⟩
    go_wp2_with fail
    refine (impCheckOf_any _ _ _ _ ho3.row).mono ?_
    rintro e w4 ⟨rfl, hb4⟩
    go_wp2_with fail
    have hr4 := ((hr.past hb1).past hb3).past hb4
    refine (toIntS_any _ _ _ _ hr4 hlt).mono ?_
    rintro e w5 ⟨A5, c5, rfl, ho5, hb5⟩
    go_wp2_with fail
    refine (eqIntS_any _ _ _ _ _ _ _ ((ho3.row.past hb4).past hb5) ho5.row (by omega)).mono ?_
    rintro e w6 ⟨rfl, n, rfl⟩
    have HE := Lib.hid (eqI_refl zs)
    rw [HE.out]
    go_wp2_with fail
    go_ret
    have z1 := hb1.size
    have z3 := hb3.size
    have z4 := hb4.size
    exact ⟨rfl, below_drewN (hb1.trans ((hb3.mono (by omega)).trans ((hb4.mono (by omega)).trans (hb5.mono (by omega))))) n⟩
  · go_enter Try.func4, Try.ntmps4
    go_wp2
    go_ret
    exact ⟨rfl, Below.refl _ _⟩
end Go.Proofs.Ytfcbenmhakobpaa
