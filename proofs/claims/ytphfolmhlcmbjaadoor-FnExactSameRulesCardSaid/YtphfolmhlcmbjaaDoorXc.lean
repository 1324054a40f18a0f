/- The walk of FnExactSameRules. No condition. -/
import Derived.Test.YtphfolmhlcmbjaaDoorX2
import Derived.Test.YtphfolmhlcmbjaaDoorX3
import Derived.Test.YtphfolmhlcmbjaaDoorX7
import Derived.Test.YtphfolmhlcmbjaaDoorEx
namespace Go.Proofs.YtphfolmhlcmbjaaDoor
open Go.RowKit

set_option maxRecDepth 100000 in
set_option maxHeartbeats 8000000 in
theorem exactSameRules_law (A : Option Addr) (c : Nat) (rs : List (ByteArray × Int)) (B : Option Addr) (d : Nat) (ss : List (ByteArray × Int)) (w : World) (hr : Own w 0 w.heap.size A (flat rs)) (hx : rs.length ≤ c ∧ c ≤ maxLen ∧ ∀ r ∈ rs, r.1.size ≤ maxLen ∧ (Lit.int .i64 r.2).wf = true) (hr2 : Own w 0 w.heap.size B (flat ss)) (hx2 : ss.length ≤ d ∧ d ≤ maxLen ∧ ∀ r ∈ ss, r.1.size ≤ maxLen ∧ (Lit.int .i64 r.2).wf = true) :
    Calls Tryd.prog 10 #[.slice A rs.length c, .slice B ss.length d] w fun e w' => e = .returned (.bool true) ∧ Below w.heap.size w w' := by
  have hl : rs.length ≤ 9223372036854775807 := by have := hx.1; have := hx.2.1; unfold maxLen at this; omega
  have HSZ := Lib.hid (show ∀ r ∈ rs, r.1.size ≤ 9223372036854775807 from fun r h => by have := (hx.2.2 r h).1; unfold maxLen at this; omega)
  have hl2 : ss.length ≤ 9223372036854775807 := by have := hx2.1; have := hx2.2.1; unfold maxLen at this; omega
  have HSZ2 := Lib.hid (show ∀ r ∈ ss, r.1.size ≤ 9223372036854775807 from fun r h => by have := (hx2.2.2 r h).1; unfold maxLen at this; omega)
  obtain ⟨V, hV⟩ : ∃ V, sameRulesV rs ss = V := ⟨_, rfl⟩
  have HV := Lib.hid hV
  clear hx hx2 hV
  go_enter Tryd.func10, Tryd.ntmps10
  go_wp2_with fail
  refine (szRuleS_from 1048576 (by omega) (by omega) _ _ _ _ hr hl HSZ.out).mono ?_
  rintro e wa ⟨r, rfl, hrm, hrl, hba⟩
  by_cases hr0 : r < 0
  · clear hrl
    go_wp2
    go_ret
    exact ⟨rfl, hba⟩
  · have h20a := (hrl (by omega)).1
    have HS2a := Lib.hid (hrl (by omega)).2
    have hnn : (0 : Int) ≤ r := by omega
    clear hrl hr0 hl
    have hza := hba.size
    have hr2a := (hr2.below hba).more hza
    go_wp2_with fail
    refine (szRuleS_from r hnn hrm _ _ _ _ hr2a hl2 HSZ2.out).mono ?_
    rintro e w0 ⟨r2, rfl, _, hrl2, hbb⟩
    have hb0 := hba.trans (hbb.mono hza)
    by_cases hr0 : r2 < 0
    · clear hrl2
      go_wp2
      go_ret
      exact ⟨rfl, hb0⟩
    · have h20b := (hrl2 (by omega)).1
      have HS2b := Lib.hid (hrl2 (by omega)).2
      have hnn2 : (0 : Int) ≤ r2 := by omega
      have zz := hb0.size
      have R0a := (hr.below hb0).more zz
      have R0b := (hr2.below hb0).more zz
      have HB0 := Lib.hid hb0
      clear hrl2 hr0 hl2 hr2a hba hbb hb0 hza hr hr2
      have a0 := R0a
      clear R0a
      have b0 := R0b
      clear R0b
      have p0 := Below.refl w0.heap.size w0
      have z0 : w0.heap.size ≤ w0.heap.size := Nat.le_refl _
      go_wp2_with fail
      refine (toRuleS_any _ _ _ _ (a0.more (by omega)) h20a).mono ?_
      rintro e w1 ⟨A1, c1, rfl, hc1, o1, e1⟩
      have z1 := e1.size
      have a1 := a0.keep (by omega) e1
      clear a0
      have b1 := b0.keep (by omega) e1
      clear b0
      have s1 := o1
      clear o1
      have p1 := p0.trans (e1.mono (by omega))
      clear p0 e1
      go_wp2_with fail
      refine (toRuleS_any _ _ _ _ (b1.more (by omega)) h20b).mono ?_
      rintro e w2 ⟨A2, c2, rfl, hc2, o2, e2⟩
      have z2 := e2.size
      have a2 := a1.keep (by omega) e2
      clear a1
      have b2 := b1.keep (by omega) e2
      clear b1
      have s2 := s1.keep (by omega) e2
      clear s1
      have t2 := o2
      clear o2
      have p2 := p1.trans (e2.mono (by omega))
      clear p1 e2
      go_wp2_with fail
      refine (specSameRules_any _ _ _ _ _ _ _ (s2.row.more (by omega)) (t2.row.more (by omega)) h20a h20b HS2a.out HS2b.out).mono ?_
      rw [HV.out]
      rintro e w3 ⟨rfl, e3⟩
      have z3 := e3.size
      have a3 := a2.keep (by omega) e3
      clear a2
      have b3 := b2.keep (by omega) e3
      clear b2
      have s3 := s2.keep (by omega) e3
      clear s2
      have t3 := t2.keep (by omega) e3
      clear t2
      have p3 := p2.trans (e3.mono (by omega))
      clear p2 e3
      clear s3 t3
      go_wp2_with fail
      refine (toRuleS_any _ _ _ _ (a3.more (by omega)) h20a).mono ?_
      rintro e w4 ⟨A4, c4, rfl, hc4, o4, e4⟩
      have z4 := e4.size
      have a4 := a3.keep (by omega) e4
      clear a3
      have b4 := b3.keep (by omega) e4
      clear b3
      have x4 := o4
      clear o4
      have p4 := p3.trans (e4.mono (by omega))
      clear p3 e4
      go_wp2_with fail
      refine (toRuleS_any _ _ _ _ (b4.more (by omega)) h20b).mono ?_
      rintro e w5 ⟨A5, c5, rfl, hc5, o5, e5⟩
      have z5 := e5.size
      have a5 := a4.keep (by omega) e5
      clear a4
      have b5 := b4.keep (by omega) e5
      clear b4
      have x5 := x4.keep (by omega) e5
      clear x4
      have y5 := o5
      clear o5
      have p5 := p4.trans (e5.mono (by omega))
      clear p4 e5
      go_wp2_with fail
      refine (impSameRules_any _ _ _ _ _ _ _ (x5.row.more (by omega)) (y5.row.more (by omega)) h20a h20b HS2a.out HS2b.out).mono ?_
      rw [HV.out]
      rintro e w6 ⟨rfl, e6⟩
      have z6 := e6.size
      have a6 := a5.keep (by omega) e6
      clear a5
      have b6 := b5.keep (by omega) e6
      clear b5
      have x6 := x5.keep (by omega) e6
      clear x5
      have y6 := y5.keep (by omega) e6
      clear y5
      have p6 := p5.trans (e6.mono (by omega))
      clear p5 e6
      have hqq : (V != V) = false := by simp
      go_wp2_with fail
      refine (toRuleS_any _ _ _ _ (a6.more (by omega)) h20a).mono ?_
      rintro e w7 ⟨A7, c7, rfl, hc7, o7, e7⟩
      have z7 := e7.size
      have a7 := a6.keep (by omega) e7
      clear a6
      have b7 := b6.keep (by omega) e7
      clear b6
      have x7 := x6.keep (by omega) e7
      clear x6
      have y7 := y6.keep (by omega) e7
      clear y6
      have t7 := o7
      clear o7
      have p7 := p6.trans (e7.mono (by omega))
      clear p6 e7
      go_wp2_with fail
      refine (eqRuleS_self _ _ _ _ _ _ (x7.row.more (by omega)) (t7.row.more (by omega)) (by omega)).mono ?_
      rintro e w8 ⟨rfl, e8⟩
      have z8 := e8.size
      have a8 := a7.keep (by omega) e8
      clear a7
      have b8 := b7.keep (by omega) e8
      clear b7
      have x8 := x7.keep (by omega) e8
      clear x7
      have y8 := y7.keep (by omega) e8
      clear y7
      have t8 := t7.keep (by omega) e8
      clear t7
      have p8 := p7.trans (e8.mono (by omega))
      clear p7 e8
      clear t8
      go_wp2_with fail
      refine (toRuleS_any _ _ _ _ (b8.more (by omega)) h20b).mono ?_
      rintro e w9 ⟨A9, c9, rfl, hc9, o9, e9⟩
      have z9 := e9.size
      have a9 := a8.keep (by omega) e9
      clear a8
      have b9 := b8.keep (by omega) e9
      clear b8
      have x9 := x8.keep (by omega) e9
      clear x8
      have y9 := y8.keep (by omega) e9
      clear y8
      have t9 := o9
      clear o9
      have p9 := p8.trans (e9.mono (by omega))
      clear p8 e9
      go_wp2_with fail
      refine (eqRuleS_self _ _ _ _ _ _ (y9.row.more (by omega)) (t9.row.more (by omega)) (by omega)).mono ?_
      rintro e w10 ⟨rfl, e10⟩
      have z10 := e10.size
      have a10 := a9.keep (by omega) e10
      clear a9
      have b10 := b9.keep (by omega) e10
      clear b9
      have x10 := x9.keep (by omega) e10
      clear x9
      have y10 := y9.keep (by omega) e10
      clear y9
      have t10 := t9.keep (by omega) e10
      clear t9
      have p10 := p9.trans (e10.mono (by omega))
      clear p9 e10
      clear t10
      go_wp2_with fail
      go_ret
      exact ⟨rfl, HB0.out.trans (p10.mono HB0.out.size)⟩
end Go.Proofs.YtphfolmhlcmbjaaDoor
