/- The walk of FnExactCanUnload. No condition. -/
import Derived.Test.YthfmmdigecjfnaaJ0
import Derived.Test.YthfmmdigecjfnaaG2
import Derived.Test.YthfmmdigecjfnaaEx
import Derived.Test.YthfmmdigecjfnaaEq
import Derived.Test.YthfmmdigecjfnaaMark2
namespace Go.Proofs.Ythfmmdigecjfnaa
open Go.RowKit


set_option maxRecDepth 100000 in
set_option maxHeartbeats 8000000 in
theorem fnExactCanUnload_law (Ah : Option Addr) (ch : Nat) (h : List Int) (As : Option Addr) (cs : Nat) (s : List Int) (w : World) (hrh : Ints w w.heap.size Ah h) (hxh : h.length ≤ ch ∧ ch ≤ maxLen ∧ ∀ u0 ∈ h, (Lit.int .i64 u0).wf = true) (hrs : Ints w w.heap.size As s) (hxs : s.length ≤ cs ∧ cs ≤ maxLen ∧ ∀ u0 ∈ s, (Lit.int .i64 u0).wf = true) :
    Calls Try.prog 6 #[.slice Ah h.length ch, .slice As s.length cs] w fun e w' => e = .returned (.bool true) ∧ Below w.heap.size w w' := by
  have hlh : h.length ≤ 9223372036854775807 := by have := hxh.1; have := hxh.2.1; unfold maxLen at this; omega
  clear hxh
  have hls : s.length ≤ 9223372036854775807 := by have := hxs.1; have := hxs.2.1; unfold maxLen at this; omega
  clear hxs
  by_cases h20h : h.length ≤ 1048576
  · skip
    by_cases h20s : s.length ≤ 1048576
    · skip
      obtain ⟨q, hq⟩ : ∃ q, unlB h s = q := ⟨_, rfl⟩
      have HV := Lib.hid hq
      clear hq
      go_enter Try.func6, Try.ntmps6
      have HEh := Lib.hid (eqISelf h)
      have HEs := Lib.hid (eqISelf s)
      have ah0 := hrh
      clear hrh
      have as0 := hrs
      clear hrs
      have p0 := Below.refl w.heap.size w
      have z0 : w.heap.size ≤ w.heap.size := Nat.le_refl _
      go_wp2_with fail
      refine (toIntS_cap _ _ _ _ (ah0.more (by omega)) (by omega)).mono ?_
      rintro e w1 ⟨A1, c1, rfl, hc1, o1, e1⟩
      have z1 := e1.size
      have ah1 := ah0.keep (by omega) e1
      clear ah0
      have as1 := as0.keep (by omega) e1
      clear as0
      have th1 := o1
      clear o1
      have p1 := p0.trans (e1.mono (by omega))
      clear p0 e1
      go_wp2_with fail
      refine (toIntS_cap _ _ _ _ (as1.more (by omega)) (by omega)).mono ?_
      rintro e w2 ⟨A2, c2, rfl, hc2, o2, e2⟩
      have z2 := e2.size
      have ah2 := ah1.keep (by omega) e2
      clear ah1
      have as2 := as1.keep (by omega) e2
      clear as1
      have th2 := th1.keep (by omega) e2
      clear th1
      have ts2 := o2
      clear o2
      have p2 := p1.trans (e2.mono (by omega))
      clear p1 e2
      go_wp2_with fail
      refine (specCanUnload_any _ _ _ _ _ _ _ (th2.row.more (by omega)) (ts2.row.more (by omega)) (by omega)).mono ?_
      rw [HV.out]
      rintro e w3 ⟨rfl, e3⟩
      have z3 := e3.size
      have ah3 := ah2.keep (by omega) e3
      clear ah2
      have as3 := as2.keep (by omega) e3
      clear as2
      have th3 := th2.keep (by omega) e3
      clear th2
      have ts3 := ts2.keep (by omega) e3
      clear ts2
      have p3 := p2.trans (e3.mono (by omega))
      clear p2 e3
      clear th3
      clear ts3
      go_wp2_with fail
      refine (toIntS_cap _ _ _ _ (ah3.more (by omega)) (by omega)).mono ?_
      rintro e w4 ⟨A4, c4, rfl, hc4, o4, e4⟩
      have z4 := e4.size
      have ah4 := ah3.keep (by omega) e4
      clear ah3
      have as4 := as3.keep (by omega) e4
      clear as3
      have xh4 := o4
      clear o4
      have p4 := p3.trans (e4.mono (by omega))
      clear p3 e4
      go_wp2_with fail
      refine (toIntS_cap _ _ _ _ (as4.more (by omega)) (by omega)).mono ?_
      rintro e w5 ⟨A5, c5, rfl, hc5, o5, e5⟩
      have z5 := e5.size
      have ah5 := ah4.keep (by omega) e5
      clear ah4
      have as5 := as4.keep (by omega) e5
      clear as4
      have xh5 := xh4.keep (by omega) e5
      clear xh4
      have xs5 := o5
      clear o5
      have p5 := p4.trans (e5.mono (by omega))
      clear p4 e5
      go_wp2_with fail
      refine (impCanUnload_any _ _ _ _ _ _ _ (xh5.row.more (by omega)) (xs5.row.more (by omega)) hc4 (by omega) (by omega)).mono ?_
      rw [HV.out]
      rintro e w6 ⟨rfl, e6⟩
      have z6 := e6.size
      have ah6 := ah5.keep (by omega) e6
      clear ah5
      have as6 := as5.keep (by omega) e6
      clear as5
      have xh6 := xh5.keep (by omega) e6
      clear xh5
      have xs6 := xs5.keep (by omega) e6
      clear xs5
      have p6 := p5.trans (e6.mono (by omega))
      clear p5 e6
      have hqq : (q != q) = false := by simp
      go_wp2_with fail
      refine (toIntS_cap _ _ _ _ (ah6.more (by omega)) (by omega)).mono ?_
      rintro e w7 ⟨A7, c7, rfl, hc7, o7, e7⟩
      have z7 := e7.size
      have ah7 := ah6.keep (by omega) e7
      clear ah6
      have as7 := as6.keep (by omega) e7
      clear as6
      have xh7 := xh6.keep (by omega) e7
      clear xh6
      have xs7 := xs6.keep (by omega) e7
      clear xs6
      have th7 := o7
      clear o7
      have p7 := p6.trans (e7.mono (by omega))
      clear p6 e7
      go_wp2_with fail
      refine (eqIntS_any _ _ _ _ _ _ _ (xh7.row.more (by omega)) (th7.row.more (by omega)) (by omega)).mono ?_
      rw [HEh.out]
      rintro e w8 ⟨rfl, n8, hw8⟩
      have e8 : Below w7.heap.size w7 w8 := by rw [hw8]; exact drewBelow _ _
      clear hw8
      have z8 := e8.size
      have ah8 := ah7.keep (by omega) e8
      clear ah7
      have as8 := as7.keep (by omega) e8
      clear as7
      have xh8 := xh7.keep (by omega) e8
      clear xh7
      have xs8 := xs7.keep (by omega) e8
      clear xs7
      have th8 := th7.keep (by omega) e8
      clear th7
      have p8 := p7.trans (e8.mono (by omega))
      clear p7 e8
      clear th8
      go_wp2_with fail
      refine (toIntS_cap _ _ _ _ (as8.more (by omega)) (by omega)).mono ?_
      rintro e w9 ⟨A9, c9, rfl, hc9, o9, e9⟩
      have z9 := e9.size
      have ah9 := ah8.keep (by omega) e9
      clear ah8
      have as9 := as8.keep (by omega) e9
      clear as8
      have xh9 := xh8.keep (by omega) e9
      clear xh8
      have xs9 := xs8.keep (by omega) e9
      clear xs8
      have ts9 := o9
      clear o9
      have p9 := p8.trans (e9.mono (by omega))
      clear p8 e9
      go_wp2_with fail
      refine (eqIntS_any _ _ _ _ _ _ _ (xs9.row.more (by omega)) (ts9.row.more (by omega)) (by omega)).mono ?_
      rw [HEs.out]
      rintro e w10 ⟨rfl, n10, hw10⟩
      have e10 : Below w9.heap.size w9 w10 := by rw [hw10]; exact drewBelow _ _
      clear hw10
      have z10 := e10.size
      have ah10 := ah9.keep (by omega) e10
      clear ah9
      have as10 := as9.keep (by omega) e10
      clear as9
      have xh10 := xh9.keep (by omega) e10
      clear xh9
      have xs10 := xs9.keep (by omega) e10
      clear xs9
      have ts10 := ts9.keep (by omega) e10
      clear ts9
      have p10 := p9.trans (e10.mono (by omega))
      clear p9 e10
      clear ts10
      go_wp2_with fail
      go_ret
      exact ⟨rfl, p10⟩
    · go_enter Try.func6, Try.ntmps6
      go_wp2
      go_ret
      exact ⟨rfl, Below.refl _ _⟩
  · go_enter Try.func6, Try.ntmps6
    go_wp2
    go_ret
    exact ⟨rfl, Below.refl _ _⟩
end Go.Proofs.Ythfmmdigecjfnaa
