/- The walks of FnExactValidRow and FnExactRunsOf. No condition. -/
import Derived.Test.YtdacjoeabndcjabS6
namespace Go.Proofs.Ytdacjoeabndcjab
open Go.RowKit

set_option maxRecDepth 100000 in
theorem exactValidRow_law (A : Option Addr) (c : Nat) (zs : List Int) (w : World) (hr : Ints w w.heap.size A zs) (hx : zs.length ≤ c ∧ c ≤ maxLen ∧ ∀ z ∈ zs, (Lit.int .i64 z).wf = true) :
    Calls Try.prog 3 #[.slice A zs.length c] w fun e w' => e = .returned (.bool true) ∧ Below w.heap.size w w' := by
  have hl : zs.length ≤ 9223372036854775807 := by have := hx.1; have := hx.2.1; unfold maxLen at this; omega
  clear hx
  by_cases h20 : zs.length ≤ 1048576
  · have hlt : zs.length ≤ 1000000000000 := by omega
    obtain ⟨q, hq⟩ : ∃ q, rowB 9 zs = q := ⟨_, rfl⟩
    have HQ := Lib.hid hq
    have hqq : (q != q) = false := by simp
    clear hq
    go_enter Try.func3, Try.ntmps3
    go_wp2_with fail
    refine (toIntS_cap _ _ _ _ hr hlt).mono ?_
    rintro e w1 ⟨A1, c1, rfl, hc1, ho1, hb1⟩
    go_wp2_with fail
    refine (specValidRow9_any _ _ _ _ ho1.row (by omega)).mono ?_
    rintro e w2 ⟨rfl, rfl⟩
    rw [HQ.out]
    go_wp2_with fail
    refine (toIntS_cap _ _ _ _ (hr.past hb1) hlt).mono ?_
    rintro e w3 ⟨A3, c3, rfl, hc3, ho3, hb3⟩
    go_wp2_with fail
    refine (impValidRow_any _ _ _ _ ho3.row hc3).mono ?_
    rintro e w4 ⟨rfl, rfl⟩
    rw [HQ.out]
    go_wp2_with fail
    have hr4 := (hr.past hb1).past hb3
    refine (toIntS_cap _ _ _ _ hr4 hlt).mono ?_
    rintro e w5 ⟨A5, c5, rfl, hc5, ho5, hb5⟩
    go_wp2_with fail
    refine (eqIntS_any _ _ _ _ _ _ _ (ho3.row.past hb5) ho5.row (by omega)).mono ?_
    rintro e w6 ⟨rfl, n, rfl⟩
    have HE := Lib.hid (show eqI zs zs = true by simp [eqI])
    rw [HE.out]
    go_wp2_with fail
    go_ret
    have z1 := hb1.size
    have z3 := hb3.size
    exact ⟨rfl, below_drewN (hb1.trans ((hb3.mono (by omega)).trans (hb5.mono (by omega)))) n⟩
  · go_enter Try.func3, Try.ntmps3
    go_wp2
    go_ret
    exact ⟨rfl, Below.refl _ _⟩

set_option maxRecDepth 100000 in
theorem exactRunsOf_law (A : Option Addr) (c : Nat) (zs : List Int) (w : World) (hr : Ints w w.heap.size A zs) (hx : zs.length ≤ c ∧ c ≤ maxLen ∧ ∀ z ∈ zs, (Lit.int .i64 z).wf = true) :
    Calls Try.prog 4 #[.slice A zs.length c] w fun e w' => e = .returned (.bool true) ∧ Below w.heap.size w w' := by
  have hl : zs.length ≤ 9223372036854775807 := by have := hx.1; have := hx.2.1; unfold maxLen at this; omega
  clear hx
  by_cases h20 : zs.length ≤ 1048576
  · have hlt : zs.length ≤ 1000000000000 := by omega
    obtain ⟨q, hq⟩ : ∃ q, runsN zs = q := ⟨_, rfl⟩
    have HQ := Lib.hid hq
    have hqq : (q != q) = false := by simp
    clear hq
    go_enter Try.func4, Try.ntmps4
    go_wp2_with fail
    refine (toIntS_cap _ _ _ _ hr hlt).mono ?_
    rintro e w1 ⟨A1, c1, rfl, hc1, ho1, hb1⟩
    go_wp2_with fail
    refine (specRunsOf_any _ _ _ _ ho1.row (by omega)).mono ?_
    rintro e w2 ⟨rfl, hb2⟩
    rw [HQ.out]
    go_wp2_with fail
    refine (toIntS_cap _ _ _ _ ((hr.past hb1).past hb2) hlt).mono ?_
    rintro e w3 ⟨A3, c3, rfl, hc3, ho3, hb3⟩
    go_wp2_with fail
    refine (impRunsOf_any _ _ _ _ ho3.row hc3).mono ?_
    rintro e w4 ⟨rfl, hb4⟩
    rw [HQ.out]
    go_wp2_with fail
    have hr4 := (((hr.past hb1).past hb2).past hb3).past hb4
    refine (toIntS_cap _ _ _ _ hr4 hlt).mono ?_
    rintro e w5 ⟨A5, c5, rfl, hc5, ho5, hb5⟩
    go_wp2_with fail
    refine (eqIntS_any _ _ _ _ _ _ _ ((ho3.row.past hb4).past hb5) ho5.row (by omega)).mono ?_
    rintro e w6 ⟨rfl, n, rfl⟩
    have HE := Lib.hid (show eqI zs zs = true by simp [eqI])
    rw [HE.out]
    go_wp2_with fail
    go_ret
    have z1 := hb1.size
    have z2 := hb2.size
    have z3 := hb3.size
    have z4 := hb4.size
    exact ⟨rfl, below_drewN (hb1.trans ((hb2.mono (by omega)).trans ((hb3.mono (by omega)).trans ((hb4.mono (by omega)).trans (hb5.mono (by omega)))))) n⟩
  · go_enter Try.func4, Try.ntmps4
    go_wp2
    go_ret
    exact ⟨rfl, Below.refl _ _⟩
end Go.Proofs.Ytdacjoeabndcjab
