/- The walk of FnExactPassOf. No condition. -/
import Derived.Test.YtdgdlmpmoafkgaaP3
import Derived.Test.YtdgdlmpmoafkgaaMark2
namespace Go.Proofs.Ytdgdlmpmoafkgaa
open Go.RowKit

theorem eqI_self (xs : List Int) : eqI xs xs = true := by simp [eqI]
theorem drew_below (w : World) (n : Nat) : Below w.heap.size w (w.drewN n) := below_drewN (Below.refl _ _) n

set_option maxRecDepth 100000 in
set_option maxHeartbeats 4000000 in
theorem exactPassOf_law (A B : Option Addr) (c d : Nat) (zs bs : List Int) (k : Int) (w : World) (hr : Ints w w.heap.size A zs) (hs : Ints w w.heap.size B bs)
    (hx : zs.length ≤ c ∧ c ≤ maxLen ∧ ∀ z ∈ zs, (Lit.int .i64 z).wf = true) (hy : bs.length ≤ d ∧ d ≤ maxLen ∧ ∀ z ∈ bs, (Lit.int .i64 z).wf = true) (hkw : (Lit.int .i64 k).wf = true) :
    Calls Try.prog 3 #[.slice A zs.length c, .slice B bs.length d, .int .i64 k] w fun e w' => e = .returned (.bool true) ∧ Below w.heap.size w w' := by
  have hl : zs.length ≤ 9223372036854775807 := by have := hx.1; have := hx.2.1; unfold maxLen at this; omega
  have hlb : bs.length ≤ 9223372036854775807 := by have := hy.1; have := hy.2.1; unfold maxLen at this; omega
  clear hx hy
  have HKW := Lib.hid hkw
  clear hkw
  by_cases h20 : zs.length ≤ 1048576
  · by_cases h21 : bs.length ≤ 1048576
    · obtain ⟨V, hV⟩ : ∃ V, passV zs bs k = V := ⟨_, rfl⟩
      have hVl : V.length ≤ 36 := by
        rw [← hV]; unfold passV
        split
        · rename_i h
          simp only [Bool.and_eq_true] at h
          have h1 := rowB_len h.1
          have h2 := boxB_yes h.2
          exact Nat.le_trans (passL_len zs bs _) (Nat.le_trans (Nat.mul_le_mul (show k.toNat ≤ 4 by omega) h1) (by decide))
        · simp
      have HV := Lib.hid hV
      clear hV
      have HE1 := Lib.hid (eqI_self V)
      have HE2 := Lib.hid (eqI_self zs)
      have HE3 := Lib.hid (eqI_self bs)
      go_enter Try.func3, Try.ntmps3
      have a0 := hr
      have b0 := hs
      clear hr hs
      have p0 := Below.refl w.heap.size w
      have z0 : w.heap.size ≤ w.heap.size := Nat.le_refl _
      go_wp2_with fail
      refine (toIntS_cap _ _ _ _ (a0.more (by omega)) (by omega)).mono ?_
      rintro e w1 ⟨A1, c1, rfl, hc1, o1, e1⟩
      have z1 := e1.size
      have a1 := a0.keep (by omega) e1
      clear a0
      have b1 := b0.keep (by omega) e1
      clear b0
      have t1 := o1
      clear o1
      have p1 := p0.trans (e1.mono (by omega))
      clear p0 e1
      go_wp2_with fail
      refine (toIntS_cap _ _ _ _ (b1.more (by omega)) (by omega)).mono ?_
      rintro e w2 ⟨A2, c2, rfl, hc2, o2, e2⟩
      have z2 := e2.size
      have a2 := a1.keep (by omega) e2
      clear a1
      have b2 := b1.keep (by omega) e2
      clear b1
      have t2 := t1.keep (by omega) e2
      clear t1
      have u2 := o2
      clear o2
      have p2 := p1.trans (e2.mono (by omega))
      clear p1 e2
      go_wp2_with fail
      refine (specPassOf_any _ _ _ _ _ _ _ _ (t2.row.more (by omega)) (u2.row.more (by omega)) (by omega) (by omega) HKW.out).mono ?_
      rw [HV.out]
      rintro e w3 ⟨A3, c3, rfl, hc3, o3, e3⟩
      have z3 := e3.size
      have a3 := a2.keep (by omega) e3
      clear a2
      have b3 := b2.keep (by omega) e3
      clear b2
      have t3 := t2.keep (by omega) e3
      clear t2
      have u3 := u2.keep (by omega) e3
      clear u2
      have s3 := o3
      clear o3
      have p3 := p2.trans (e3.mono (by omega))
      clear p2 e3
      clear t3 u3
      go_wp2_with fail
      refine (toIntS_cap _ _ _ _ (a3.more (by omega)) (by omega)).mono ?_
      rintro e w4 ⟨A4, c4, rfl, hc4, o4, e4⟩
      have z4 := e4.size
      have a4 := a3.keep (by omega) e4
      clear a3
      have b4 := b3.keep (by omega) e4
      clear b3
      have s4 := s3.keep (by omega) e4
      clear s3
      have x4 := o4
      clear o4
      have p4 := p3.trans (e4.mono (by omega))
      clear p3 e4
      go_wp2_with fail
      refine (toIntS_cap _ _ _ _ (b4.more (by omega)) (by omega)).mono ?_
      rintro e w5 ⟨A5, c5, rfl, hc5, o5, e5⟩
      have z5 := e5.size
      have a5 := a4.keep (by omega) e5
      clear a4
      have b5 := b4.keep (by omega) e5
      clear b4
      have s5 := s4.keep (by omega) e5
      clear s4
      have x5 := x4.keep (by omega) e5
      clear x4
      have y5 := o5
      clear o5
      have p5 := p4.trans (e5.mono (by omega))
      clear p4 e5
      go_wp2_with fail
      refine (impPassOf_any _ _ _ _ _ _ _ _ (x5.row.more (by omega)) (y5.row.more (by omega)) hc4 (by omega)).mono ?_
      rw [HV.out]
      rintro e w6 ⟨A6, c6, rfl, hc6, o6, e6⟩
      have z6 := e6.size
      have a6 := a5.keep (by omega) e6
      clear a5
      have b6 := b5.keep (by omega) e6
      clear b5
      have s6 := s5.keep (by omega) e6
      clear s5
      have x6 := x5.keep (by omega) e6
      clear x5
      have y6 := y5.keep (by omega) e6
      clear y5
      have g6 := o6
      clear o6
      have p6 := p5.trans (e6.mono (by omega))
      clear p5 e6
      go_wp2_with fail
      refine (eqIntS_any _ _ _ _ _ _ _ (g6.row.more (by omega)) (s6.row.more (by omega)) (by omega)).mono ?_
      rw [HE1.out]
      rintro e w7 ⟨rfl, n7, hw7⟩
      have e7 : Below w6.heap.size w6 w7 := by rw [hw7]; exact drew_below _ _
      clear hw7
      have z7 := e7.size
      have a7 := a6.keep (by omega) e7
      clear a6
      have b7 := b6.keep (by omega) e7
      clear b6
      have s7 := s6.keep (by omega) e7
      clear s6
      have x7 := x6.keep (by omega) e7
      clear x6
      have y7 := y6.keep (by omega) e7
      clear y6
      have g7 := g6.keep (by omega) e7
      clear g6
      have p7 := p6.trans (e7.mono (by omega))
      clear p6 e7
      go_wp2_with fail
      refine (toIntS_cap _ _ _ _ (a7.more (by omega)) (by omega)).mono ?_
      rintro e w8 ⟨A8, c8, rfl, hc8, o8, e8⟩
      have z8 := e8.size
      have a8 := a7.keep (by omega) e8
      clear a7
      have b8 := b7.keep (by omega) e8
      clear b7
      have s8 := s7.keep (by omega) e8
      clear s7
      have x8 := x7.keep (by omega) e8
      clear x7
      have y8 := y7.keep (by omega) e8
      clear y7
      have g8 := g7.keep (by omega) e8
      clear g7
      have t8 := o8
      clear o8
      have p8 := p7.trans (e8.mono (by omega))
      clear p7 e8
      go_wp2_with fail
      refine (eqIntS_any _ _ _ _ _ _ _ (x8.row.more (by omega)) (t8.row.more (by omega)) (by omega)).mono ?_
      rw [HE2.out]
      rintro e w9 ⟨rfl, n9, hw9⟩
      have e9 : Below w8.heap.size w8 w9 := by rw [hw9]; exact drew_below _ _
      clear hw9
      have z9 := e9.size
      have a9 := a8.keep (by omega) e9
      clear a8
      have b9 := b8.keep (by omega) e9
      clear b8
      have s9 := s8.keep (by omega) e9
      clear s8
      have x9 := x8.keep (by omega) e9
      clear x8
      have y9 := y8.keep (by omega) e9
      clear y8
      have g9 := g8.keep (by omega) e9
      clear g8
      have t9 := t8.keep (by omega) e9
      clear t8
      have p9 := p8.trans (e9.mono (by omega))
      clear p8 e9
      clear t9
      go_wp2_with fail
      refine (toIntS_cap _ _ _ _ (b9.more (by omega)) (by omega)).mono ?_
      rintro e w10 ⟨A10, c10, rfl, hc10, o10, e10⟩
      have z10 := e10.size
      have a10 := a9.keep (by omega) e10
      clear a9
      have b10 := b9.keep (by omega) e10
      clear b9
      have s10 := s9.keep (by omega) e10
      clear s9
      have x10 := x9.keep (by omega) e10
      clear x9
      have y10 := y9.keep (by omega) e10
      clear y9
      have g10 := g9.keep (by omega) e10
      clear g9
      have t10 := o10
      clear o10
      have p10 := p9.trans (e10.mono (by omega))
      clear p9 e10
      go_wp2_with fail
      refine (eqIntS_any _ _ _ _ _ _ _ (y10.row.more (by omega)) (t10.row.more (by omega)) (by omega)).mono ?_
      rw [HE3.out]
      rintro e w11 ⟨rfl, n11, hw11⟩
      have e11 : Below w10.heap.size w10 w11 := by rw [hw11]; exact drew_below _ _
      clear hw11
      have z11 := e11.size
      have a11 := a10.keep (by omega) e11
      clear a10
      have b11 := b10.keep (by omega) e11
      clear b10
      have s11 := s10.keep (by omega) e11
      clear s10
      have x11 := x10.keep (by omega) e11
      clear x10
      have y11 := y10.keep (by omega) e11
      clear y10
      have g11 := g10.keep (by omega) e11
      clear g10
      have t11 := t10.keep (by omega) e11
      clear t10
      have p11 := p10.trans (e11.mono (by omega))
      clear p10 e11
      clear t11
      go_wp2_with fail
      refine (markIntS_at _ _ _ 1 _ _ _ x11 (by omega) (by omega) (by omega)).mono ?_
      rintro e w12 ⟨rfl, m12, wr12⟩
      have z12 := wr12.size
      have a12 := wr12.elder a11 (by omega) (by omega)
      clear a11
      have b12 := wr12.elder b11 (by omega) (by omega)
      clear b11
      have s12 := wr12.elder s11 (by omega) (by omega)
      clear s11
      have x12 := m12
      clear m12 x11
      have y12 := wr12.apart y11 (by omega) (by omega)
      clear y11
      have g12 := wr12.apart g11 (by omega) (by omega)
      clear g11
      have p12 := p11.trans (wr12.below (by omega) (by omega))
      clear p11 wr12
      go_wp2_with fail
      refine (markIntS_at _ _ _ (1 + zs.length) _ _ _ y12 (by omega) (by omega) (by omega)).mono ?_
      rintro e w13 ⟨rfl, m13, wr13⟩
      have z13 := wr13.size
      have a13 := wr13.elder a12 (by omega) (by omega)
      clear a12
      have b13 := wr13.elder b12 (by omega) (by omega)
      clear b12
      have s13 := wr13.elder s12 (by omega) (by omega)
      clear s12
      have x13 := wr13.elder x12 (by omega) (by omega)
      clear x12
      have y13 := m13
      clear m13 y12
      have g13 := wr13.apart g12 (by omega) (by omega)
      clear g12
      have p13 := p12.trans (wr13.below (by omega) (by omega))
      clear p12 wr13
      go_wp2_with fail
      refine (eqIntS_any _ _ _ _ _ _ _ (g13.row.more (by omega)) (s13.row.more (by omega)) (by omega)).mono ?_
      rw [HE1.out]
      rintro e w14 ⟨rfl, n14, hw14⟩
      have e14 : Below w13.heap.size w13 w14 := by rw [hw14]; exact drew_below _ _
      clear hw14
      have z14 := e14.size
      have a14 := a13.keep (by omega) e14
      clear a13
      have b14 := b13.keep (by omega) e14
      clear b13
      have s14 := s13.keep (by omega) e14
      clear s13
      have x14 := x13.keep (by omega) e14
      clear x13
      have y14 := y13.keep (by omega) e14
      clear y13
      have g14 := g13.keep (by omega) e14
      clear g13
      have p14 := p13.trans (e14.mono (by omega))
      clear p13 e14
      go_wp2_with fail
      refine (markIntS_at _ _ _ 1 _ _ _ g14 (by omega) (by omega) (by omega)).mono ?_
      rintro e w15 ⟨rfl, m15, wr15⟩
      have z15 := wr15.size
      have a15 := wr15.elder a14 (by omega) (by omega)
      clear a14
      have b15 := wr15.elder b14 (by omega) (by omega)
      clear b14
      have s15 := wr15.elder s14 (by omega) (by omega)
      clear s14
      have x15 := wr15.elder x14 (by omega) (by omega)
      clear x14
      have y15 := wr15.elder y14 (by omega) (by omega)
      clear y14
      have g15 := m15
      clear m15 g14
      have p15 := p14.trans (wr15.below (by omega) (by omega))
      clear p14 wr15
      go_wp2_with fail
      refine (heldIntS_any _ _ V.length 1 _ (g15.row.more (by omega)) (by omega) (by omega) (by omega)).mono ?_
      rintro e w' ⟨rfl, rfl⟩
      have ht1 : (((1 : Int) + (V.length : Int)) != (1 + (V.length : Int))) = false := by simp
      go_wp2_with fail
      refine (toIntS_cap _ _ _ _ (a15.more (by omega)) (by omega)).mono ?_
      rintro e w16 ⟨A16, c16, rfl, hc16, o16, e16⟩
      have z16 := e16.size
      have a16 := a15.keep (by omega) e16
      clear a15
      have b16 := b15.keep (by omega) e16
      clear b15
      have s16 := s15.keep (by omega) e16
      clear s15
      have x16 := x15.keep (by omega) e16
      clear x15
      have y16 := y15.keep (by omega) e16
      clear y15
      have g16 := g15.keep (by omega) e16
      clear g15
      have t16 := o16
      clear o16
      have p16 := p15.trans (e16.mono (by omega))
      clear p15 e16
      go_wp2_with fail
      refine (toIntS_cap _ _ _ _ (b16.more (by omega)) (by omega)).mono ?_
      rintro e w17 ⟨A17, c17, rfl, hc17, o17, e17⟩
      have z17 := e17.size
      have a17 := a16.keep (by omega) e17
      clear a16
      have b17 := b16.keep (by omega) e17
      clear b16
      have s17 := s16.keep (by omega) e17
      clear s16
      have x17 := x16.keep (by omega) e17
      clear x16
      have y17 := y16.keep (by omega) e17
      clear y16
      have g17 := g16.keep (by omega) e17
      clear g16
      have t17 := t16.keep (by omega) e17
      clear t16
      have u17 := o17
      clear o17
      have p17 := p16.trans (e17.mono (by omega))
      clear p16 e17
      go_wp2_with fail
      refine (impPassOf_any _ _ _ _ _ _ _ _ (t17.row.more (by omega)) (u17.row.more (by omega)) hc16 (by omega)).mono ?_
      rw [HV.out]
      rintro e w18 ⟨A18, c18, rfl, hc18, o18, e18⟩
      have z18 := e18.size
      have a18 := a17.keep (by omega) e18
      clear a17
      have b18 := b17.keep (by omega) e18
      clear b17
      have s18 := s17.keep (by omega) e18
      clear s17
      have x18 := x17.keep (by omega) e18
      clear x17
      have y18 := y17.keep (by omega) e18
      clear y17
      have g18 := g17.keep (by omega) e18
      clear g17
      have t18 := t17.keep (by omega) e18
      clear t17
      have u18 := u17.keep (by omega) e18
      clear u17
      have h18 := o18
      clear o18
      have p18 := p17.trans (e18.mono (by omega))
      clear p17 e18
      clear t18 u18
      go_wp2_with fail
      refine (eqIntS_any _ _ _ _ _ _ _ (h18.row.more (by omega)) (s18.row.more (by omega)) (by omega)).mono ?_
      rw [HE1.out]
      rintro e w19 ⟨rfl, n19, hw19⟩
      have e19 : Below w18.heap.size w18 w19 := by rw [hw19]; exact drew_below _ _
      clear hw19
      have z19 := e19.size
      have a19 := a18.keep (by omega) e19
      clear a18
      have b19 := b18.keep (by omega) e19
      clear b18
      have s19 := s18.keep (by omega) e19
      clear s18
      have x19 := x18.keep (by omega) e19
      clear x18
      have y19 := y18.keep (by omega) e19
      clear y18
      have g19 := g18.keep (by omega) e19
      clear g18
      have h19 := h18.keep (by omega) e19
      clear h18
      have p19 := p18.trans (e19.mono (by omega))
      clear p18 e19
      go_wp2_with fail
      refine (heldIntS_any _ _ V.length 1 _ (g19.row.more (by omega)) (by omega) (by omega) (by omega)).mono ?_
      rintro e w' ⟨rfl, rfl⟩
      go_wp2_with fail
      go_ret
      exact ⟨rfl, p19⟩
    · go_enter Try.func3, Try.ntmps3
      go_wp2
      go_ret
      exact ⟨rfl, Below.refl _ _⟩
  · go_enter Try.func3, Try.ntmps3
    go_wp2
    go_ret
    exact ⟨rfl, Below.refl _ _⟩

theorem exactPassOf_row (A : Option Addr) (c : Nat) (zs : List Int) (B : Option Addr) (d : Nat) (bs : List Int) (k : Int) (w : World) (hr : Ints w w.heap.size A zs)
    (hx : zs.length ≤ c ∧ c ≤ maxLen ∧ ∀ z ∈ zs, (Lit.int .i64 z).wf = true) (hs : Ints w w.heap.size B bs) (hy : bs.length ≤ d ∧ d ≤ maxLen ∧ ∀ z ∈ bs, (Lit.int .i64 z).wf = true) (hkw : (Lit.int .i64 k).wf = true) :
    Calls Try.prog 3 #[.slice A zs.length c, .slice B bs.length d, .int .i64 k] w fun e w' => e = .returned (.bool true) ∧ Below w.heap.size w w' :=
  exactPassOf_law A B c d zs bs k w hr hs hx hy hkw
end Go.Proofs.Ytdgdlmpmoafkgaa
