/- The walk of FnExactBestPair. No condition. -/
import Derived.Test.YtookdmdlpglbcaaZd
import Derived.Test.YtookdmdlpglbcaaG2
import Derived.Test.YtookdmdlpglbcaaEx
import Derived.Test.YtookdmdlpglbcaaEq
import Derived.Test.YtookdmdlpglbcaaT
import Derived.Test.YtookdmdlpglbcaaMark2
namespace Go.Proofs.Ytookdmdlpglbcaa
open Go.RowKit

theorem bpL_len (r : Int) : (bpL r).length ≤ 2 := by
  unfold bpL
  split <;> simp [pL]
theorem specBP_ret (most : Int) (w : World) (q : List Int) (r : Int) (hq : bpL most = q) (hr : bpR most = r) : Calls Try.prog 23 #[.int .i64 most] w (BpRes w q r) := by
  rw [← hq, ← hr]; exact specBestPair_any most w
theorem impBP_ret (most : Int) (w : World) (q : List Int) (r : Int) (hq : bpL most = q) (hr : bpR most = r) : Calls Try.prog 24 #[.int .i64 most] w (BpRes w q r) := by
  rw [← hq, ← hr]; exact impBestPair_any most w

set_option maxRecDepth 100000 in
set_option maxHeartbeats 8000000 in
theorem fnExactBestPair_law (r : Int) (w : World) (_hr : (Lit.int .i64 r).wf = true) :
    Calls Try.prog 8 #[.int .i64 r] w fun e w' => e = .returned (.bool true) ∧ Below w.heap.size w w' := by
  have hbr : -9223372036854775808 ≤ r ∧ r ≤ 9223372036854775807 := int_bd _hr
  obtain ⟨hlor, hhir⟩ := hbr
  clear _hr
  have hql := bpL_len r
  obtain ⟨q, hq⟩ : ∃ q, bpL r = q := ⟨_, rfl⟩
  rw [hq] at hql
  have HV := Lib.hid hq
  have HEV := Lib.hid (eqISelf q)
  clear hq
  obtain ⟨t, ht⟩ : ∃ t, bpR r = t := ⟨_, rfl⟩
  have HRR := Lib.hid ht
  clear ht
  have htt : (t != t) = false := by simp
  go_enter Try.func8, Try.ntmps8
  have p0 := Below.refl w.heap.size w
  have z0 : w.heap.size ≤ w.heap.size := Nat.le_refl _
  go_wp2_with fail
  refine (specBP_ret _ _ _ _ HV.out HRR.out).mono ?_
  rintro e w1 ⟨A1, c1, rfl, hc1, o1, e1⟩
  have z1 := e1.size
  have s1 := o1
  clear o1
  have p1 := p0.trans (e1.mono (by omega))
  clear p0 e1
  go_wp2_with fail
  refine (impBP_ret _ _ _ _ HV.out HRR.out).mono ?_
  rintro e w2 ⟨A2, c2, rfl, hc2, o2, e2⟩
  have z2 := e2.size
  have s2 := s1.keep (by omega) e2
  clear s1
  have g2 := o2
  clear o2
  have p2 := p1.trans (e2.mono (by omega))
  clear p1 e2
  go_wp2_with fail
  refine (eqIntS_any _ _ _ _ _ _ _ (g2.row.more (by omega)) (s2.row.more (by omega)) (by omega)).mono ?_
  rw [HEV.out]
  rintro e w3 ⟨rfl, n3, hw3⟩
  have e3 : Below w2.heap.size w2 w3 := by rw [hw3]; exact drewBelow _ _
  clear hw3
  have z3 := e3.size
  have s3 := s2.keep (by omega) e3
  clear s2
  have g3 := g2.keep (by omega) e3
  clear g2
  have p3 := p2.trans (e3.mono (by omega))
  clear p2 e3
  go_wp2_with fail
  refine (markIntS_at _ _ _ 1 _ _ _ g3 (by omega) (by omega) (by omega)).mono ?_
  rintro e w4 ⟨rfl, m4, wr4⟩
  have z4 := wr4.size
  have s4 := wr4.elder s3 (by omega) (by omega)
  clear s3
  have g4 := m4
  clear m4 g3
  have p4 := p3.trans (wr4.below (by omega) (by omega))
  clear p3 wr4
  go_wp2_with fail
  refine (heldIntS_any _ _ q.length 1 _ (g4.row.more (by omega)) (by omega) (by omega) (by omega)).mono ?_
  rintro e w' ⟨rfl, rfl⟩
  have ht1 : (((1 : Int) + (q.length : Int)) != (1 + (q.length : Int))) = false := by simp
  go_wp2_with fail
  refine (impBP_ret _ _ _ _ HV.out HRR.out).mono ?_
  rintro e w5 ⟨A5, c5, rfl, hc5, o5, e5⟩
  have z5 := e5.size
  have s5 := s4.keep (by omega) e5
  clear s4
  have g5 := g4.keep (by omega) e5
  clear g4
  have h5 := o5
  clear o5
  have p5 := p4.trans (e5.mono (by omega))
  clear p4 e5
  go_wp2_with fail
  refine (eqIntS_any _ _ _ _ _ _ _ (h5.row.more (by omega)) (s5.row.more (by omega)) (by omega)).mono ?_
  rw [HEV.out]
  rintro e w6 ⟨rfl, n6, hw6⟩
  have e6 : Below w5.heap.size w5 w6 := by rw [hw6]; exact drewBelow _ _
  clear hw6
  have z6 := e6.size
  have s6 := s5.keep (by omega) e6
  clear s5
  have g6 := g5.keep (by omega) e6
  clear g5
  have h6 := h5.keep (by omega) e6
  clear h5
  have p6 := p5.trans (e6.mono (by omega))
  clear p5 e6
  go_wp2_with fail
  refine (heldIntS_any _ _ q.length 1 _ (g6.row.more (by omega)) (by omega) (by omega) (by omega)).mono ?_
  rintro e w' ⟨rfl, rfl⟩
  go_wp2_with fail
  go_ret
  exact ⟨rfl, p6⟩
end Go.Proofs.Ytookdmdlpglbcaa
