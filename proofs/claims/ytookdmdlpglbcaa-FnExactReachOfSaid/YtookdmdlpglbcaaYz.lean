/- The walk of FnExactReachOf. No condition. -/
import Derived.Test.YtookdmdlpglbcaaYy
import Derived.Test.YtookdmdlpglbcaaG2
import Derived.Test.YtookdmdlpglbcaaEx
import Derived.Test.YtookdmdlpglbcaaEq
import Derived.Test.YtookdmdlpglbcaaT
namespace Go.Proofs.Ytookdmdlpglbcaa
open Go.RowKit


set_option maxRecDepth 100000 in
set_option maxHeartbeats 8000000 in
theorem fnExactReachOf_law (Az : Option Addr) (cz : Nat) (z : List Int) (r : Int) (w : World) (hrz : Ints w w.heap.size Az z) (hxz : z.length ≤ cz ∧ cz ≤ maxLen ∧ ∀ u0 ∈ z, (Lit.int .i64 u0).wf = true) (_hr : (Lit.int .i64 r).wf = true) :
    Calls Try.prog 7 #[.slice Az z.length cz, .int .i64 r] w fun e w' => e = .returned (.bool true) ∧ Below w.heap.size w w' := by
  have hlz : z.length ≤ 9223372036854775807 := by have := hxz.1; have := hxz.2.1; unfold maxLen at this; omega
  clear hxz
  have hbr : -9223372036854775808 ≤ r ∧ r ≤ 9223372036854775807 := int_bd _hr
  obtain ⟨hlor, hhir⟩ := hbr
  clear _hr
  by_cases h20z : z.length ≤ 1048576
  · skip
    obtain ⟨q, hq⟩ : ∃ q, reaV z r = q := ⟨_, rfl⟩
    have HV := Lib.hid hq
    clear hq
    go_enter Try.func7, Try.ntmps7
    have HEz := Lib.hid (eqISelf z)
    have az0 := hrz
    clear hrz
    have p0 := Below.refl w.heap.size w
    have z0 : w.heap.size ≤ w.heap.size := Nat.le_refl _
    go_wp2_with fail
    refine (toIntS_cap _ _ _ _ (az0.more (by omega)) (by omega)).mono ?_
    rintro e w1 ⟨A1, c1, rfl, hc1, o1, e1⟩
    have z1 := e1.size
    have az1 := az0.keep (by omega) e1
    clear az0
    have tz1 := o1
    clear o1
    have p1 := p0.trans (e1.mono (by omega))
    clear p0 e1
    go_wp2_with fail
    refine (specReachOf_any _ _ _ _ _ (tz1.row.more (by omega)) (by omega)).mono ?_
    rw [HV.out]
    rintro e w2 ⟨rfl, e2⟩
    have z2 := e2.size
    have az2 := az1.keep (by omega) e2
    clear az1
    have tz2 := tz1.keep (by omega) e2
    clear tz1
    have p2 := p1.trans (e2.mono (by omega))
    clear p1 e2
    clear tz2
    go_wp2_with fail
    refine (toIntS_cap _ _ _ _ (az2.more (by omega)) (by omega)).mono ?_
    rintro e w3 ⟨A3, c3, rfl, hc3, o3, e3⟩
    have z3 := e3.size
    have az3 := az2.keep (by omega) e3
    clear az2
    have xz3 := o3
    clear o3
    have p3 := p2.trans (e3.mono (by omega))
    clear p2 e3
    go_wp2_with fail
    refine (impReachOf_any _ _ _ _ _ (xz3.row.more (by omega))).mono ?_
    rw [HV.out]
    rintro e w4 ⟨rfl, e4⟩
    have z4 := e4.size
    have az4 := az3.keep (by omega) e4
    clear az3
    have xz4 := xz3.keep (by omega) e4
    clear xz3
    have p4 := p3.trans (e4.mono (by omega))
    clear p3 e4
    have hqq : (q != q) = false := by simp
    go_wp2_with fail
    refine (toIntS_cap _ _ _ _ (az4.more (by omega)) (by omega)).mono ?_
    rintro e w5 ⟨A5, c5, rfl, hc5, o5, e5⟩
    have z5 := e5.size
    have az5 := az4.keep (by omega) e5
    clear az4
    have xz5 := xz4.keep (by omega) e5
    clear xz4
    have tz5 := o5
    clear o5
    have p5 := p4.trans (e5.mono (by omega))
    clear p4 e5
    go_wp2_with fail
    refine (eqIntS_any _ _ _ _ _ _ _ (xz5.row.more (by omega)) (tz5.row.more (by omega)) (by omega)).mono ?_
    rw [HEz.out]
    rintro e w6 ⟨rfl, n6, hw6⟩
    have e6 : Below w5.heap.size w5 w6 := by rw [hw6]; exact drewBelow _ _
    clear hw6
    have z6 := e6.size
    have az6 := az5.keep (by omega) e6
    clear az5
    have xz6 := xz5.keep (by omega) e6
    clear xz5
    have tz6 := tz5.keep (by omega) e6
    clear tz5
    have p6 := p5.trans (e6.mono (by omega))
    clear p5 e6
    clear tz6
    go_wp2_with fail
    go_ret
    exact ⟨rfl, p6⟩
  · go_enter Try.func7, Try.ntmps7
    go_wp2
    go_ret
    exact ⟨rfl, Below.refl _ _⟩
end Go.Proofs.Ytookdmdlpglbcaa
