/- The walk of FnExactTrimRules. No condition. -/
import Derived.Test.YtphfolmhlcmbjaaDoorX2
import Derived.Test.YtphfolmhlcmbjaaDoorX3
import Derived.Test.YtphfolmhlcmbjaaDoorXh
import Derived.Test.YtphfolmhlcmbjaaDoorXo
import Derived.Test.YtphfolmhlcmbjaaDoorXm
import Derived.Test.YtphfolmhlcmbjaaDoorMark2
import Derived.Test.YtphfolmhlcmbjaaDoorEx
namespace Go.Proofs.YtphfolmhlcmbjaaDoor
open Go.RowKit

theorem markU2 (A : Option Addr) (c : Nat) (rs : List (ByteArray × Int)) (base B : Nat) (w : World) (ho : Own w (base + 1) B A (flat rs)) (hB : B ≤ w.heap.size) (hl : rs.length ≤ 10000000) :
    Calls Tryd.prog 36 #[.slice A rs.length c, .int .i64 1] w fun e w' => e = .returned (.int .i64 ((1 + 2 * rs.length : Nat) : Int)) ∧ Own w' (base + 1) B A (flat (mkR 1 rs.length)) ∧ Wrote base B w w' :=
  markRuleS_at A c rs 1 base B w ho hB hl (by omega) (by omega)
theorem heldU2 (A : Option Addr) (c n : Nat) (w : World) (ho : Own w 0 w.heap.size A (flat (mkR 1 n))) (hl : n ≤ 10000000) :
    Calls Tryd.prog 39 #[.slice A n c, .int .i64 1] w fun e w' => e = .returned (.int .i64 ((1 + 2 * n : Nat) : Int)) ∧ Below w.heap.size w w' :=
  heldRuleS_any A c n 1 w ho hl (by omega) (by omega)

set_option maxRecDepth 100000 in
set_option maxHeartbeats 8000000 in
theorem exactTrimRules_law (A : Option Addr) (c : Nat) (rs : List (ByteArray × Int)) (w : World) (hr : Own w 0 w.heap.size A (flat rs)) (hx : rs.length ≤ c ∧ c ≤ maxLen ∧ ∀ r ∈ rs, r.1.size ≤ maxLen ∧ (Lit.int .i64 r.2).wf = true) :
    Calls Tryd.prog 12 #[.slice A rs.length c] w fun e w' => e = .returned (.bool true) ∧ Below w.heap.size w w' := by
  have hl : rs.length ≤ 9223372036854775807 := by have := hx.1; have := hx.2.1; unfold maxLen at this; omega
  have hsz : ∀ r ∈ rs, r.1.size ≤ 9223372036854775807 := fun r h => by have := (hx.2.2 r h).1; unfold maxLen at this; omega
  have HSZ := Lib.hid hsz
  clear hx hsz
  go_enter Tryd.func12, Tryd.ntmps12
  go_wp2_with fail
  refine (szRuleS_any _ _ _ _ hr hl HSZ.out).mono ?_
  rintro e w0 ⟨r, rfl, hrl, hb0⟩
  by_cases hr0 : r < 0
  · clear hrl
    go_wp2
    go_ret
    exact ⟨rfl, hb0⟩
  · have h20 := (hrl (by omega)).1
    have HS2 := Lib.hid (hrl (by omega)).2
    have hnn : (0 : Int) ≤ r := by omega
    have hVl : (trimR rs).length ≤ rs.length := by
      unfold trimR
      split
      · exact (trimV_sub rs).length_le
      · simp
    obtain ⟨V, hV⟩ : ∃ V, trimR rs = V := ⟨_, rfl⟩
    rw [hV] at hVl
    have HV := Lib.hid hV
    clear hrl hr0 hl hV
    have R0 := (hr.below hb0).more hb0.size
    clear hr
    have a0 := R0
    clear R0
    have p0 := Below.refl w0.heap.size w0
    have z0 : w0.heap.size ≤ w0.heap.size := Nat.le_refl _
    go_wp2_with fail
    refine (toRuleS_any _ _ _ _ (a0.more (by omega)) h20).mono ?_
    rintro e w1 ⟨A1, c1, rfl, hc1, o1, e1⟩
    have z1 := e1.size
    have a1 := a0.keep (by omega) e1
    clear a0
    have t1 := o1
    clear o1
    have p1 := p0.trans (e1.mono (by omega))
    clear p0 e1
    go_wp2_with fail
    refine (specTrimRules_any _ _ _ _ (t1.row.more (by omega)) h20 HS2.out).mono ?_
    rw [show trimQ rs = trimR rs from rfl, HV.out]
    rintro e w2 ⟨A2, c2, rfl, hc2, o2, e2⟩
    have z2 := e2.size
    have a2 := a1.keep (by omega) e2
    clear a1
    have t2 := t1.keep (by omega) e2
    clear t1
    have s2 := o2
    clear o2
    have p2 := p1.trans (e2.mono (by omega))
    clear p1 e2
    clear t2
    go_wp2_with fail
    refine (toRuleS_any _ _ _ _ (a2.more (by omega)) h20).mono ?_
    rintro e w3 ⟨A3, c3, rfl, hc3, o3, e3⟩
    have z3 := e3.size
    have a3 := a2.keep (by omega) e3
    clear a2
    have s3 := s2.keep (by omega) e3
    clear s2
    have x3 := o3
    clear o3
    have p3 := p2.trans (e3.mono (by omega))
    clear p2 e3
    go_wp2_with fail
    refine (impTrimRules_any _ _ _ _ (x3.row.more (by omega)) HS2.out).mono ?_
    rw [HV.out]
    rintro e w4 ⟨A4, c4, rfl, hc4, o4, e4⟩
    have z4 := e4.size
    have a4 := a3.keep (by omega) e4
    clear a3
    have s4 := s3.keep (by omega) e4
    clear s3
    have x4 := x3.keep (by omega) e4
    clear x3
    have g4 := o4
    clear o4
    have p4 := p3.trans (e4.mono (by omega))
    clear p3 e4
    go_wp2_with fail
    refine (eqRuleS_self _ _ _ _ _ _ (g4.row.more (by omega)) (s4.row.more (by omega)) (by omega)).mono ?_
    rintro e w5 ⟨rfl, e5⟩
    have z5 := e5.size
    have a5 := a4.keep (by omega) e5
    clear a4
    have s5 := s4.keep (by omega) e5
    clear s4
    have x5 := x4.keep (by omega) e5
    clear x4
    have g5 := g4.keep (by omega) e5
    clear g4
    have p5 := p4.trans (e5.mono (by omega))
    clear p4 e5
    go_wp2_with fail
    refine (toRuleS_any _ _ _ _ (a5.more (by omega)) h20).mono ?_
    rintro e w6 ⟨A6, c6, rfl, hc6, o6, e6⟩
    have z6 := e6.size
    have a6 := a5.keep (by omega) e6
    clear a5
    have s6 := s5.keep (by omega) e6
    clear s5
    have x6 := x5.keep (by omega) e6
    clear x5
    have g6 := g5.keep (by omega) e6
    clear g5
    have t6 := o6
    clear o6
    have p6 := p5.trans (e6.mono (by omega))
    clear p5 e6
    go_wp2_with fail
    refine (eqRuleS_self _ _ _ _ _ _ (x6.row.more (by omega)) (t6.row.more (by omega)) (by omega)).mono ?_
    rintro e w7 ⟨rfl, e7⟩
    have z7 := e7.size
    have a7 := a6.keep (by omega) e7
    clear a6
    have s7 := s6.keep (by omega) e7
    clear s6
    have x7 := x6.keep (by omega) e7
    clear x6
    have g7 := g6.keep (by omega) e7
    clear g6
    have t7 := t6.keep (by omega) e7
    clear t6
    have p7 := p6.trans (e7.mono (by omega))
    clear p6 e7
    clear t7
    go_wp2_with fail
    refine (markU2 _ _ _ _ _ _ x7 (by omega) (by omega)).mono ?_
    rintro e w8 ⟨rfl, m8, wr8⟩
    have z8 := wr8.size
    have a8 := wr8.elder a7 (by omega) (by omega)
    clear a7
    have s8 := wr8.elder s7 (by omega) (by omega)
    clear s7
    have x8 := m8
    clear m8 x7
    have g8 := wr8.apart g7 (by omega) (by omega)
    clear g7
    have p8 := p7.trans (wr8.below (by omega) (by omega))
    clear p7 wr8
    have hpos : (0 : Int) ≤ ((1 + 2 * rs.length : Nat) : Int) := by omega
    have hnn2 : decide (((1 + 2 * rs.length : Nat) : Int) < 0) = false := decide_eq_false (by omega)
    obtain ⟨M1, hM1⟩ : ∃ M1 : Int, ((1 + 2 * rs.length : Nat) : Int) = M1 := ⟨_, rfl⟩
    rw [hM1] at hpos hnn2 ⊢
    clear hM1
    go_wp2_with fail
    refine (eqRuleS_self _ _ _ _ _ _ (g8.row.more (by omega)) (s8.row.more (by omega)) (by omega)).mono ?_
    rintro e w9 ⟨rfl, e9⟩
    have z9 := e9.size
    have a9 := a8.keep (by omega) e9
    clear a8
    have s9 := s8.keep (by omega) e9
    clear s8
    have x9 := x8.keep (by omega) e9
    clear x8
    have g9 := g8.keep (by omega) e9
    clear g8
    have p9 := p8.trans (e9.mono (by omega))
    clear p8 e9
    go_wp2_with fail
    refine (markU2 _ _ _ _ _ _ g9 (by omega) (by omega)).mono ?_
    rintro e w10 ⟨rfl, m10, wr10⟩
    have z10 := wr10.size
    have a10 := wr10.elder a9 (by omega) (by omega)
    clear a9
    have s10 := wr10.elder s9 (by omega) (by omega)
    clear s9
    have x10 := wr10.elder x9 (by omega) (by omega)
    clear x9
    have g10 := m10
    clear m10 g9
    have p10 := p9.trans (wr10.below (by omega) (by omega))
    clear p9 wr10
    obtain ⟨M2, hM2⟩ : ∃ M2 : Int, ((1 + 2 * V.length : Nat) : Int) = M2 := ⟨_, rfl⟩
    have hpos2 : (0 : Int) ≤ M2 := by omega
    have HM2 := Lib.hid hM2
    rw [hM2]
    clear hM2
    have ht1 : (M2 != M2) = false := by simp
    go_wp2_with fail
    refine (heldU2 _ _ _ _ (g10.row.more (by omega)) (by omega)).mono ?_
    rw [HM2.out]
    rintro e w11 ⟨rfl, e11⟩
    have z11 := e11.size
    have a11 := a10.keep (by omega) e11
    clear a10
    have s11 := s10.keep (by omega) e11
    clear s10
    have x11 := x10.keep (by omega) e11
    clear x10
    have g11 := g10.keep (by omega) e11
    clear g10
    have p11 := p10.trans (e11.mono (by omega))
    clear p10 e11
    go_wp2_with fail
    refine (toRuleS_any _ _ _ _ (a11.more (by omega)) h20).mono ?_
    rintro e w12 ⟨A12, c12, rfl, hc12, o12, e12⟩
    have z12 := e12.size
    have a12 := a11.keep (by omega) e12
    clear a11
    have s12 := s11.keep (by omega) e12
    clear s11
    have x12 := x11.keep (by omega) e12
    clear x11
    have g12 := g11.keep (by omega) e12
    clear g11
    have t12 := o12
    clear o12
    have p12 := p11.trans (e12.mono (by omega))
    clear p11 e12
    go_wp2_with fail
    refine (impTrimRules_any _ _ _ _ (t12.row.more (by omega)) HS2.out).mono ?_
    rw [HV.out]
    rintro e w13 ⟨A13, c13, rfl, hc13, o13, e13⟩
    have z13 := e13.size
    have a13 := a12.keep (by omega) e13
    clear a12
    have s13 := s12.keep (by omega) e13
    clear s12
    have x13 := x12.keep (by omega) e13
    clear x12
    have g13 := g12.keep (by omega) e13
    clear g12
    have t13 := t12.keep (by omega) e13
    clear t12
    have h13 := o13
    clear o13
    have p13 := p12.trans (e13.mono (by omega))
    clear p12 e13
    clear t13
    go_wp2_with fail
    refine (eqRuleS_self _ _ _ _ _ _ (h13.row.more (by omega)) (s13.row.more (by omega)) (by omega)).mono ?_
    rintro e w14 ⟨rfl, e14⟩
    have z14 := e14.size
    have a14 := a13.keep (by omega) e14
    clear a13
    have s14 := s13.keep (by omega) e14
    clear s13
    have x14 := x13.keep (by omega) e14
    clear x13
    have g14 := g13.keep (by omega) e14
    clear g13
    have h14 := h13.keep (by omega) e14
    clear h13
    have p14 := p13.trans (e14.mono (by omega))
    clear p13 e14
    go_wp2_with fail
    refine (heldU2 _ _ _ _ (g14.row.more (by omega)) (by omega)).mono ?_
    rw [HM2.out]
    rintro e w15 ⟨rfl, e15⟩
    have z15 := e15.size
    have a15 := a14.keep (by omega) e15
    clear a14
    have s15 := s14.keep (by omega) e15
    clear s14
    have x15 := x14.keep (by omega) e15
    clear x14
    have g15 := g14.keep (by omega) e15
    clear g14
    have h15 := h14.keep (by omega) e15
    clear h14
    have p15 := p14.trans (e15.mono (by omega))
    clear p14 e15
    go_wp2_with fail
    go_ret
    exact ⟨rfl, hb0.trans (p15.mono hb0.size)⟩
end Go.Proofs.YtphfolmhlcmbjaaDoor
