/- The walk of FnExactLostAt. No condition. -/
import Derived.Test.YtonnffilcmlodabVv
import Derived.Test.YtonnffilcmlodabMark2
namespace Go.Proofs.Ytonnffilcmlodab
open Go.RowKit

theorem lostQ_len (h : List Int) : (lostQ h).length ≤ 5 := by
  unfold lostQ
  split
  · rename_i hv
    rw [lost_len]
    simp only [lostOk, Bool.and_eq_true] at hv
    exact (hops_of hv.1).2.2
  · simp

set_option maxRecDepth 100000 in
set_option maxHeartbeats 8000000 in
theorem fnExactLostAt_law (Ah : Option Addr) (ch : Nat) (h : List Int) (w : World) (hrh : Ints w w.heap.size Ah h) (hxh : h.length ≤ ch ∧ ch ≤ maxLen ∧ ∀ u0 ∈ h, (Lit.int .i64 u0).wf = true) :
    Calls Try.prog 7 #[.slice Ah h.length ch] w fun e w' => e = .returned (.bool true) ∧ Below w.heap.size w w' := by
  have hlh : h.length ≤ 9223372036854775807 := by have := hxh.1; have := hxh.2.1; unfold maxLen at this; omega
  clear hxh
  by_cases h20h : h.length ≤ 1048576
  · skip
    have hql := lostQ_len h
    obtain ⟨q, hq⟩ : ∃ q, lostQ h = q := ⟨_, rfl⟩
    obtain ⟨b, hb⟩ : ∃ b, lostOk h = b := ⟨_, rfl⟩
    rw [hq] at hql
    have HV := Lib.hid hq
    have HVB := Lib.hid hb
    have hbb : (b != b) = false := by simp
    have hlt0 : decide (((1 + 2 * q.length : Nat) : Int) < 0) = false := decide_eq_false (by omega)
    clear hq hb
    go_enter Try.func7, Try.ntmps7
    have HEh := Lib.hid (eqISelf h)
    have ah0 := hrh
    clear hrh
    have p0 := Below.refl w.heap.size w
    have z0 : w.heap.size ≤ w.heap.size := Nat.le_refl _
    go_wp2_with fail
    refine (toIntS_cap _ _ _ _ (ah0.more (by omega)) (by omega)).mono ?_
    rintro e w1 ⟨A1, c1, rfl, hc1, o1, e1⟩
    have z1 := e1.size
    have ah1 := ah0.keep (by omega) e1
    clear ah0
    have th1 := o1
    clear o1
    have p1 := p0.trans (e1.mono (by omega))
    clear p0 e1
    go_wp2_with fail
    refine (specLost_any _ _ _ _ (th1.row.more (by omega)) (by omega)).mono ?_
    rw [HV.out, HVB.out]
    rintro e w2 ⟨A2, c2, rfl, hc2, o2, e2⟩
    have z2 := e2.size
    have ah2 := ah1.keep (by omega) e2
    clear ah1
    have th2 := th1.keep (by omega) e2
    clear th1
    have s2 := o2
    clear o2
    have p2 := p1.trans (e2.mono (by omega))
    clear p1 e2
    clear th2
    go_wp2_with fail
    refine (toIntS_cap _ _ _ _ (ah2.more (by omega)) (by omega)).mono ?_
    rintro e w3 ⟨A3, c3, rfl, hc3, o3, e3⟩
    have z3 := e3.size
    have ah3 := ah2.keep (by omega) e3
    clear ah2
    have s3 := s2.keep (by omega) e3
    clear s2
    have xh3 := o3
    clear o3
    have p3 := p2.trans (e3.mono (by omega))
    clear p2 e3
    go_wp2_with fail
    refine (impLost_any _ _ _ _ (xh3.row.more (by omega)) (by omega)).mono ?_
    rw [HV.out, HVB.out]
    rintro e w4 ⟨A4, c4, rfl, hc4, o4, e4⟩
    have z4 := e4.size
    have ah4 := ah3.keep (by omega) e4
    clear ah3
    have s4 := s3.keep (by omega) e4
    clear s3
    have xh4 := xh3.keep (by omega) e4
    clear xh3
    have g4 := o4
    clear o4
    have p4 := p3.trans (e4.mono (by omega))
    clear p3 e4
    go_wp2_with fail
    refine (eqFracS_self _ _ _ _ q _ (g4.row.more (by omega)) (s4.row.more (by omega)) (by omega)).mono ?_
    rintro e w5 ⟨rfl, e5⟩
    have z5 := e5.size
    have ah5 := ah4.keep (by omega) e5
    clear ah4
    have s5 := s4.keep (by omega) e5
    clear s4
    have xh5 := xh4.keep (by omega) e5
    clear xh4
    have g5 := g4.keep (by omega) e5
    clear g4
    have p5 := p4.trans (e5.mono (by omega))
    clear p4 e5
    go_wp2_with fail
    refine (toIntS_cap _ _ _ _ (ah5.more (by omega)) (by omega)).mono ?_
    rintro e w6 ⟨A6, c6, rfl, hc6, o6, e6⟩
    have z6 := e6.size
    have ah6 := ah5.keep (by omega) e6
    clear ah5
    have s6 := s5.keep (by omega) e6
    clear s5
    have xh6 := xh5.keep (by omega) e6
    clear xh5
    have g6 := g5.keep (by omega) e6
    clear g5
    have th6 := o6
    clear o6
    have p6 := p5.trans (e6.mono (by omega))
    clear p5 e6
    go_wp2_with fail
    refine (eqIntS_any _ _ _ _ _ _ _ (xh6.row.more (by omega)) (th6.row.more (by omega)) (by omega)).mono ?_
    rw [HEh.out]
    rintro e w7 ⟨rfl, n7, hw7⟩
    have e7 : Below w6.heap.size w6 w7 := by rw [hw7]; exact drewBelow _ _
    clear hw7
    have z7 := e7.size
    have ah7 := ah6.keep (by omega) e7
    clear ah6
    have s7 := s6.keep (by omega) e7
    clear s6
    have xh7 := xh6.keep (by omega) e7
    clear xh6
    have g7 := g6.keep (by omega) e7
    clear g6
    have th7 := th6.keep (by omega) e7
    clear th6
    have p7 := p6.trans (e7.mono (by omega))
    clear p6 e7
    clear th7
    go_wp2_with fail
    refine (markIntS_at _ _ _ 1 _ _ _ xh7 (by omega) (by omega) (by omega)).mono ?_
    rintro e w8 ⟨rfl, m8, wr8⟩
    have z8 := wr8.size
    have ah8 := wr8.elder ah7 (by omega) (by omega)
    clear ah7
    have s8 := wr8.elder s7 (by omega) (by omega)
    clear s7
    have xh8 := m8
    clear m8 xh7
    have g8 := wr8.apart g7 (by omega) (by omega)
    clear g7
    have p8 := p7.trans (wr8.below (by omega) (by omega))
    clear p7 wr8
    go_wp2_with fail
    refine (eqFracS_self _ _ _ _ q _ (g8.row.more (by omega)) (s8.row.more (by omega)) (by omega)).mono ?_
    rintro e w9 ⟨rfl, e9⟩
    have z9 := e9.size
    have ah9 := ah8.keep (by omega) e9
    clear ah8
    have s9 := s8.keep (by omega) e9
    clear s8
    have xh9 := xh8.keep (by omega) e9
    clear xh8
    have g9 := g8.keep (by omega) e9
    clear g8
    have p9 := p8.trans (e9.mono (by omega))
    clear p8 e9
    go_wp2_with fail
    refine (markFracS_at _ _ q 1 _ _ _ g9 (by omega) (by omega) (by omega)).mono ?_
    rintro e w10 ⟨rfl, m10, wr10⟩
    have z10 := wr10.size
    have ah10 := wr10.elder ah9 (by omega) (by omega)
    clear ah9
    have s10 := wr10.elder s9 (by omega) (by omega)
    clear s9
    have xh10 := wr10.elder xh9 (by omega) (by omega)
    clear xh9
    have g10 := m10
    clear m10 g9
    have p10 := p9.trans (wr10.below (by omega) (by omega))
    clear p9 wr10
    go_wp2_with fail
    refine (heldFracS_any _ _ q.length 1 _ (g10.row.more (by omega)) (by omega) (by omega)).mono ?_
    rintro e w' ⟨rfl, rfl⟩
    have ht1 : (((1 + 2 * q.length : Nat) : Int) != ((1 + 2 * q.length : Nat) : Int)) = false := by simp
    go_wp2_with fail
    refine (toIntS_cap _ _ _ _ (ah10.more (by omega)) (by omega)).mono ?_
    rintro e w11 ⟨A11, c11, rfl, hc11, o11, e11⟩
    have z11 := e11.size
    have ah11 := ah10.keep (by omega) e11
    clear ah10
    have s11 := s10.keep (by omega) e11
    clear s10
    have xh11 := xh10.keep (by omega) e11
    clear xh10
    have g11 := g10.keep (by omega) e11
    clear g10
    have th11 := o11
    clear o11
    have p11 := p10.trans (e11.mono (by omega))
    clear p10 e11
    go_wp2_with fail
    refine (impLost_any _ _ _ _ (th11.row.more (by omega)) (by omega)).mono ?_
    rw [HV.out, HVB.out]
    rintro e w12 ⟨A12, c12, rfl, hc12, o12, e12⟩
    have z12 := e12.size
    have ah12 := ah11.keep (by omega) e12
    clear ah11
    have s12 := s11.keep (by omega) e12
    clear s11
    have xh12 := xh11.keep (by omega) e12
    clear xh11
    have g12 := g11.keep (by omega) e12
    clear g11
    have th12 := th11.keep (by omega) e12
    clear th11
    have h12 := o12
    clear o12
    have p12 := p11.trans (e12.mono (by omega))
    clear p11 e12
    clear th12
    go_wp2_with fail
    refine (eqFracS_self _ _ _ _ q _ (h12.row.more (by omega)) (s12.row.more (by omega)) (by omega)).mono ?_
    rintro e w13 ⟨rfl, e13⟩
    have z13 := e13.size
    have ah13 := ah12.keep (by omega) e13
    clear ah12
    have s13 := s12.keep (by omega) e13
    clear s12
    have xh13 := xh12.keep (by omega) e13
    clear xh12
    have g13 := g12.keep (by omega) e13
    clear g12
    have h13 := h12.keep (by omega) e13
    clear h12
    have p13 := p12.trans (e13.mono (by omega))
    clear p12 e13
    go_wp2_with fail
    refine (heldFracS_any _ _ q.length 1 _ (g13.row.more (by omega)) (by omega) (by omega)).mono ?_
    rintro e w' ⟨rfl, rfl⟩
    go_wp2_with fail
    go_ret
    exact ⟨rfl, p13⟩
  · go_enter Try.func7, Try.ntmps7
    go_wp2
    go_ret
    exact ⟨rfl, Below.refl _ _⟩
end Go.Proofs.Ytonnffilcmlodab
