/- The walk of FnExactWalkOf. No condition. -/
import Derived.Test.YtaaekpbiaghjfaaH10
import Derived.Test.YtaaekpbiaghjfaaG2
import Derived.Test.YtaaekpbiaghjfaaEx
import Derived.Test.YtaaekpbiaghjfaaEq
namespace Go.Proofs.Ytaaekpbiaghjfaa
open Go.RowKit


set_option maxRecDepth 100000 in
set_option maxHeartbeats 8000000 in
theorem fnExactWalkOf_law (Ah : Option Addr) (ch : Nat) (h : List (List Int)) (Az : Option Addr) (cz : Nat) (z : List Int) (x : Int) (w : World) (hrh : Grid w 0 w.heap.size Ah h) (hxh : h.length ≤ ch ∧ ch ≤ maxLen ∧ ∀ r0 ∈ h, r0.length ≤ maxLen ∧ ∀ u0 ∈ r0, (Lit.int .i64 u0).wf = true) (hrz : Ints w w.heap.size Az z) (hxz : z.length ≤ cz ∧ cz ≤ maxLen ∧ ∀ u0 ∈ z, (Lit.int .i64 u0).wf = true) (_hx : (Lit.int .i64 x).wf = true) :
    Calls Try.prog 10 #[.slice Ah h.length ch, .slice Az z.length cz, .int .i64 x] w fun e w' => e = .returned (.bool true) ∧ Below w.heap.size w w' := by
  have hlh : h.length ≤ 9223372036854775807 := by have := hxh.1; have := hxh.2.1; unfold maxLen at this; omega
  have HSh := Lib.hid (show ∀ r ∈ h, r.length ≤ 9223372036854775807 from fun r h => by have := (hxh.2.2 r h).1; unfold maxLen at this; omega)
  clear hxh
  have hlz : z.length ≤ 9223372036854775807 := by have := hxz.1; have := hxz.2.1; unfold maxLen at this; omega
  clear hxz
  have hbx : -9223372036854775808 ≤ x ∧ x ≤ 9223372036854775807 := int_bd _hx
  obtain ⟨hlox, hhix⟩ := hbx
  clear _hx
  by_cases h20z : z.length ≤ 1048576
  · skip
    obtain ⟨q, hq⟩ : ∃ q, walkV h z x = q := ⟨_, rfl⟩
    have HV := Lib.hid hq
    clear hq
    go_enter Try.func10, Try.ntmps10
    go_wp2_with fail
    refine (szIntSS_any _ _ _ _ hrh hlh HSh.out).mono ?_
    rintro e w' ⟨rh, rfl, hrlh, rfl⟩
    have HRLh := Lib.hid hrlh
    clear hrlh
    by_cases hr0h : rh < 0
    · go_wp2
      go_ret
      exact ⟨rfl, Below.refl _ _⟩
    have hnnh : (0 : Int) ≤ rh := by omega
    clear hr0h
    have hsumh := HRLh.out hnnh
    have hzh : h.length ≤ 1048576 := by omega
    have HTh := Lib.hid (show ∀ r ∈ h, r.length ≤ 1048576 from fun r h => Nat.le_trans (len_le_total h) (by omega))
    have HRh := Lib.hid (show ∀ (i : Nat) (hi : i < h.length), h[i].length ≤ 1000000000 from fun i hi => by have := HTh.out _ (List.getElem_mem hi); omega)
    have HMh := Lib.hid (show ∀ r ∈ h, r.length ≤ 1000000000 from fun r h => by have := HTh.out r h; omega)
    have HEh := Lib.hid (eqG_self h)
    have HEz := Lib.hid (eqISelf z)
    have ah0 := hrh
    clear hrh
    have az0 := hrz
    clear hrz
    have p0 := Below.refl w.heap.size w
    have z0 : w.heap.size ≤ w.heap.size := Nat.le_refl _
    go_wp2_with fail
    refine (toIntSS_any _ _ _ _ (ah0.more (by omega)) hzh HTh.out).mono ?_
    rintro e w1 ⟨A1, c1, rfl, hc1, o1, e1⟩
    have z1 := e1.size
    have ah1 := ah0.keep (by omega) e1
    clear ah0
    have az1 := az0.keep (by omega) e1
    clear az0
    have th1 := o1
    clear o1
    have p1 := p0.trans (e1.mono (by omega))
    clear p0 e1
    go_wp2_with fail
    refine (toIntS_cap _ _ _ _ (az1.more (by omega)) (by omega)).mono ?_
    rintro e w2 ⟨A2, c2, rfl, hc2, o2, e2⟩
    have z2 := e2.size
    have ah2 := ah1.keep (by omega) e2
    clear ah1
    have az2 := az1.keep (by omega) e2
    clear az1
    have th2 := th1.keep (by omega) e2
    clear th1
    have tz2 := o2
    clear o2
    have p2 := p1.trans (e2.mono (by omega))
    clear p1 e2
    go_wp2_with fail
    refine (specWalk_any _ _ _ _ _ _ _ _ (th2.row.more (by omega)) (tz2.row.more (by omega)) (by omega) HMh.out (by omega)).mono ?_
    rw [HV.out]
    rintro e w3 ⟨rfl, e3⟩
    have z3 := e3.size
    have ah3 := ah2.keep (by omega) e3
    clear ah2
    have az3 := az2.keep (by omega) e3
    clear az2
    have th3 := th2.keep (by omega) e3
    clear th2
    have tz3 := tz2.keep (by omega) e3
    clear tz2
    have p3 := p2.trans (e3.mono (by omega))
    clear p2 e3
    clear th3
    clear tz3
    go_wp2_with fail
    refine (toIntSS_any _ _ _ _ (ah3.more (by omega)) hzh HTh.out).mono ?_
    rintro e w4 ⟨A4, c4, rfl, hc4, o4, e4⟩
    have z4 := e4.size
    have ah4 := ah3.keep (by omega) e4
    clear ah3
    have az4 := az3.keep (by omega) e4
    clear az3
    have xh4 := o4
    clear o4
    have p4 := p3.trans (e4.mono (by omega))
    clear p3 e4
    go_wp2_with fail
    refine (toIntS_cap _ _ _ _ (az4.more (by omega)) (by omega)).mono ?_
    rintro e w5 ⟨A5, c5, rfl, hc5, o5, e5⟩
    have z5 := e5.size
    have ah5 := ah4.keep (by omega) e5
    clear ah4
    have az5 := az4.keep (by omega) e5
    clear az4
    have xh5 := xh4.keep (by omega) e5
    clear xh4
    have xz5 := o5
    clear o5
    have p5 := p4.trans (e5.mono (by omega))
    clear p4 e5
    go_wp2_with fail
    refine (impWalk_any _ _ _ _ _ _ _ _ (xh5.row.more (by omega)) HMh.out (xz5.row.more (by omega)) hc5).mono ?_
    rw [HV.out]
    rintro e w6 ⟨rfl, e6⟩
    have z6 := e6.size
    have ah6 := ah5.keep (by omega) e6
    clear ah5
    have az6 := az5.keep (by omega) e6
    clear az5
    have xh6 := xh5.keep (by omega) e6
    clear xh5
    have xz6 := xz5.keep (by omega) e6
    clear xz5
    have p6 := p5.trans (e6.mono (by omega))
    clear p5 e6
    have hqq : (q != q) = false := by simp
    go_wp2_with fail
    refine (toIntSS_any _ _ _ _ (ah6.more (by omega)) hzh HTh.out).mono ?_
    rintro e w7 ⟨A7, c7, rfl, hc7, o7, e7⟩
    have z7 := e7.size
    have ah7 := ah6.keep (by omega) e7
    clear ah6
    have az7 := az6.keep (by omega) e7
    clear az6
    have xh7 := xh6.keep (by omega) e7
    clear xh6
    have xz7 := xz6.keep (by omega) e7
    clear xz6
    have th7 := o7
    clear o7
    have p7 := p6.trans (e7.mono (by omega))
    clear p6 e7
    go_wp2_with fail
    refine (eqIntSS_any _ _ _ _ _ _ _ (xh7.row.more (by omega)) (th7.row.more (by omega)) (by omega) HRh.out).mono ?_
    rw [HEh.out]
    rintro e w8 ⟨rfl, n8, hw8⟩
    have e8 : Below w7.heap.size w7 w8 := by rw [hw8]; exact drewBelow _ _
    clear hw8
    have z8 := e8.size
    have ah8 := ah7.keep (by omega) e8
    clear ah7
    have az8 := az7.keep (by omega) e8
    clear az7
    have xh8 := xh7.keep (by omega) e8
    clear xh7
    have xz8 := xz7.keep (by omega) e8
    clear xz7
    have th8 := th7.keep (by omega) e8
    clear th7
    have p8 := p7.trans (e8.mono (by omega))
    clear p7 e8
    clear th8
    go_wp2_with fail
    refine (toIntS_cap _ _ _ _ (az8.more (by omega)) (by omega)).mono ?_
    rintro e w9 ⟨A9, c9, rfl, hc9, o9, e9⟩
    have z9 := e9.size
    have ah9 := ah8.keep (by omega) e9
    clear ah8
    have az9 := az8.keep (by omega) e9
    clear az8
    have xh9 := xh8.keep (by omega) e9
    clear xh8
    have xz9 := xz8.keep (by omega) e9
    clear xz8
    have tz9 := o9
    clear o9
    have p9 := p8.trans (e9.mono (by omega))
    clear p8 e9
    go_wp2_with fail
    refine (eqIntS_any _ _ _ _ _ _ _ (xz9.row.more (by omega)) (tz9.row.more (by omega)) (by omega)).mono ?_
    rw [HEz.out]
    rintro e w10 ⟨rfl, n10, hw10⟩
    have e10 : Below w9.heap.size w9 w10 := by rw [hw10]; exact drewBelow _ _
    clear hw10
    have z10 := e10.size
    have ah10 := ah9.keep (by omega) e10
    clear ah9
    have az10 := az9.keep (by omega) e10
    clear az9
    have xh10 := xh9.keep (by omega) e10
    clear xh9
    have xz10 := xz9.keep (by omega) e10
    clear xz9
    have tz10 := tz9.keep (by omega) e10
    clear tz9
    have p10 := p9.trans (e10.mono (by omega))
    clear p9 e10
    clear tz10
    go_wp2_with fail
    go_ret
    exact ⟨rfl, p10⟩
  · go_enter Try.func10, Try.ntmps10
    go_wp2
    go_ret
    exact ⟨rfl, Below.refl _ _⟩
end Go.Proofs.Ytaaekpbiaghjfaa
