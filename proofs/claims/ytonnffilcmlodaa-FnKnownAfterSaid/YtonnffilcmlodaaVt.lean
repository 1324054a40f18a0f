/- The walk of FnExactCallsFor. No condition. -/
import Derived.Test.YtonnffilcmlodaaVj
import Derived.Test.YtonnffilcmlodaaG2
import Derived.Test.YtonnffilcmlodaaEx
namespace Go.Proofs.Ytonnffilcmlodaa
open Go.RowKit

theorem cf_small : ∀ n : Fin 8, (cfL n.val).length ≤ 20 ∧ total (cfL n.val) ≤ 100 ∧ ∀ r ∈ cfL n.val, r.length ≤ 2 := by decide +kernel
theorem cfI_len (n : Int) : (cfI n).length ≤ 20 ∧ total (cfI n) ≤ 100 ∧ ∀ r ∈ cfI n, r.length ≤ 2 := by
  unfold cfI
  split
  · rename_i h
    have := inR_iff.1 h
    exact cf_small ⟨n.toNat, by omega⟩
  · exact ⟨by decide, by decide, fun r hr => by simp at hr⟩
theorem cf_g {w w' : World} {rs : List (List Int)} {e : Ending} (h : CfRes w rs e w') : ∃ A c, e = .returned (.slice A rs.length c) ∧ rs.length ≤ c ∧ MGrid w' w.heap.size w'.heap.size A rs ∧ Below w.heap.size w w' := by
  obtain ⟨H, c, hs, h1, h2, h3⟩ := h
  exact ⟨H, c, h1, h2.cap, h2.mgrid, h3⟩
theorem specCF_g (n : Int) (w : World) : Calls Try.prog 27 #[.int .i64 n] w fun e w' => ∃ A c, e = .returned (.slice A (cfI n).length c) ∧ (cfI n).length ≤ c ∧ MGrid w' w.heap.size w'.heap.size A (cfI n) ∧ Below w.heap.size w w' := (specCallsFor_any n w).mono fun _ _ h => cf_g h
theorem impCF_g (n : Int) (w : World) : Calls Try.prog 25 #[.int .i64 n] w fun e w' => ∃ A c, e = .returned (.slice A (cfI n).length c) ∧ (cfI n).length ≤ c ∧ MGrid w' w.heap.size w'.heap.size A (cfI n) ∧ Below w.heap.size w w' := (impCallsFor_any n w).mono fun _ _ h => cf_g h

set_option maxRecDepth 100000 in
set_option maxHeartbeats 8000000 in
theorem fnExactCallsFor_law (n : Int) (w : World) (_hn : (Lit.int .i64 n).wf = true) :
    Calls Try.prog 11 #[.int .i64 n] w fun e w' => e = .returned (.bool true) ∧ Below w.heap.size w w' := by
  have hbn : -9223372036854775808 ≤ n ∧ n ≤ 9223372036854775807 := int_bd _hn
  obtain ⟨hlon, hhin⟩ := hbn
  clear _hn
  have hql := cfI_len n
  obtain ⟨q, hq⟩ : ∃ q, cfI n = q := ⟨_, rfl⟩
  rw [hq] at hql
  have HV := Lib.hid hq
  have HEV := Lib.hid (eqG_self q)
  have hqt : total q ≤ 100 := hql.2.1
  have hqr := hql.2.2
  have HRV := Lib.hid (show ∀ (i : Nat) (hi : i < q.length), q[i].length ≤ 1000000000 from fun i hi => by have := hqr _ (List.getElem_mem hi); omega)
  obtain ⟨hql, _, _⟩ := hql
  clear hq hqr
  go_enter Try.func11, Try.ntmps11
  have p0 := Below.refl w.heap.size w
  have z0 : w.heap.size ≤ w.heap.size := Nat.le_refl _
  go_wp2_with fail
  refine (specCF_g _ _).mono ?_
  rw [HV.out]
  rintro e w1 ⟨A1, c1, rfl, hc1, o1, e1⟩
  have z1 := e1.size
  have s1 := o1
  clear o1
  have p1 := p0.trans (e1.mono (by omega))
  clear p0 e1
  go_wp2_with fail
  refine (impCF_g _ _).mono ?_
  rw [HV.out]
  rintro e w2 ⟨A2, c2, rfl, hc2, o2, e2⟩
  have z2 := e2.size
  have s2 := s1.keep (by omega) e2
  clear s1
  have g2 := o2
  clear o2
  have p2 := p1.trans (e2.mono (by omega))
  clear p1 e2
  go_wp2_with fail
  refine (eqIntSS_any _ _ _ _ _ _ _ (g2.row.more (by omega)) (s2.row.more (by omega)) (by omega) HRV.out).mono ?_
  rw [HEV.out]
  rintro e w3 ⟨rfl, n3, hw3⟩
  have e3 : Below w2.heap.size w2 w3 := by rw [hw3]; exact drewBelow _ _
  clear hw3
  have z3 := e3.size
  have s3 := s2.keep (by omega) e3
  clear s2
  have g3 := g2.keep (by omega) e3
  clear g2
  have p3 := p2.trans (e3.mono (by omega))
  clear p2 e3
  go_wp2_with fail
  refine (markIntSS_any _ _ _ 1 _ _ _ g3 (by omega) (by omega) (by omega) (by omega) (by omega)).mono ?_
  rintro e w4 ⟨rfl, m4, wr4⟩
  have z4 := wr4.size
  have s4 := wr4.mgridElder s3 (by omega) (by omega)
  clear s3
  have g4 := m4
  clear m4 g3
  have p4 := p3.trans (wr4.below (by omega) (by omega))
  clear p3 wr4
  go_wp2_with fail
  refine (heldIntSS_any _ _ q 1 _ (g4.row.more (by omega)) (by omega) (by omega) (by omega) (by omega)).mono ?_
  rintro e w' ⟨rfl, rfl⟩
  have ht1 : (((1 : Int) + (total q : Int)) != (1 + (total q : Int))) = false := by simp
  go_wp2_with fail
  refine (impCF_g _ _).mono ?_
  rw [HV.out]
  rintro e w5 ⟨A5, c5, rfl, hc5, o5, e5⟩
  have z5 := e5.size
  have s5 := s4.keep (by omega) e5
  clear s4
  have g5 := g4.keep (by omega) e5
  clear g4
  have h5 := o5
  clear o5
  have p5 := p4.trans (e5.mono (by omega))
  clear p4 e5
  go_wp2_with fail
  refine (eqIntSS_any _ _ _ _ _ _ _ (h5.row.more (by omega)) (s5.row.more (by omega)) (by omega) HRV.out).mono ?_
  rw [HEV.out]
  rintro e w6 ⟨rfl, n6, hw6⟩
  have e6 : Below w5.heap.size w5 w6 := by rw [hw6]; exact drewBelow _ _
  clear hw6
  have z6 := e6.size
  have s6 := s5.keep (by omega) e6
  clear s5
  have g6 := g5.keep (by omega) e6
  clear g5
  have h6 := h5.keep (by omega) e6
  clear h5
  have p6 := p5.trans (e6.mono (by omega))
  clear p5 e6
  go_wp2_with fail
  refine (heldIntSS_any _ _ q 1 _ (g6.row.more (by omega)) (by omega) (by omega) (by omega) (by omega)).mono ?_
  rintro e w' ⟨rfl, rfl⟩
  go_wp2_with fail
  go_ret
  exact ⟨rfl, p6⟩
end Go.Proofs.Ytonnffilcmlodaa
