/- The walk of FnExactSortPasses. No condition. -/
import Derived.Test.YtdacjoeabndcjabSr
import Derived.Test.YtdacjoeabndcjabG2
import Derived.Test.YtdacjoeabndcjabP4
namespace Go.Proofs.Ytdacjoeabndcjab
open Go.RowKit

theorem sortR_rows {zs : List Int} {k : Nat} (hk : 0 < k) (m : Nat) : ∀ r ∈ sortR zs k m, r.length = zs.length := by
  induction m with
  | zero => intro r hr; simp [sortR] at hr; rw [hr]
  | succ m ih =>
    intro r hr
    simp only [sortR, List.mem_append, List.mem_singleton] at hr
    rcases hr with h | rfl
    · exact ih r h
    · exact (nowP_perm hk (m + 1)).length_eq
theorem total_le {rs : List (List Int)} {n : Nat} (h : ∀ r ∈ rs, r.length ≤ n) : total rs ≤ rs.length * n := by
  induction rs with
  | nil => simp [total]
  | cons r rs ih =>
    have h1 := h r (by simp)
    have h2 := ih (fun x hx => h x (by simp [hx]))
    simp only [total, List.map_cons, List.sum_cons, List.length_cons] at h2 ⊢
    rw [Nat.add_mul]; omega
theorem sortV_bd (zs : List Int) (k : Int) : (sortV zs k).length ≤ 5 ∧ (∀ r ∈ sortV zs k, r.length ≤ 9) := by
  unfold sortV
  by_cases hc : (rowB 9 zs && inR k 2 4) = true
  · rw [if_pos hc]
    simp only [Bool.and_eq_true] at hc
    have h1 := rowB_len hc.1
    have h2 : 2 ≤ k ∧ k ≤ 4 := by simpa [inR] using hc.2
    refine ⟨by rw [sortR_len]; have := passN_le (runsNat zs) k.toNat; omega, fun r hr => ?_⟩
    rw [sortR_rows (by omega) _ r hr]; exact h1
  · rw [if_neg hc]; simp

set_option maxRecDepth 100000 in
set_option maxHeartbeats 8000000 in
theorem exactSort_law (A : Option Addr) (c : Nat) (zs : List Int) (k : Int) (w : World) (hr : Ints w w.heap.size A zs) (hx : zs.length ≤ c ∧ c ≤ maxLen ∧ ∀ z ∈ zs, (Lit.int .i64 z).wf = true) (_hk : (Lit.int .i64 k).wf = true) :
    Calls Try.prog 9 #[.slice A zs.length c, .int .i64 k] w fun e w' => e = .returned (.bool true) ∧ Below w.heap.size w w' := by
  have hl : zs.length ≤ 9223372036854775807 := by have := hx.1; have := hx.2.1; unfold maxLen at this; omega
  clear hx _hk
  by_cases h20 : zs.length ≤ 1048576
  · have hbd := sortV_bd zs k
    obtain ⟨V, hV⟩ : ∃ V, sortV zs k = V := ⟨_, rfl⟩
    rw [hV] at hbd
    have HV := Lib.hid hV
    have hVl := hbd.1
    have htot : total V ≤ 100 := Nat.le_trans (total_le hbd.2) (Nat.le_trans (Nat.mul_le_mul hVl (Nat.le_refl 9)) (by decide))
    have hrl : ∀ (i : Nat) (hi : i < V.length), V[i].length ≤ 1000000000 := fun i hi => by have := hbd.2 _ (List.getElem_mem hi); omega
    have HRL := Lib.hid hrl
    clear hV hbd hrl
    have HE1 := Lib.hid (eqG_self V)
    have HE2 := Lib.hid (eqI_self zs)
    go_enter Try.func9, Try.ntmps9
    have a0 := hr
    clear hr
    have p0 := Below.refl w.heap.size w
    have z0 : w.heap.size ≤ w.heap.size := Nat.le_refl _
    go_wp2_with fail
    refine (toIntS_cap _ _ _ _ (a0.more (by omega)) (by omega)).mono ?_
    rintro e w1 ⟨A1, c1, rfl, hc1, o1, e1⟩
    have z1 := e1.size
    have a1 := a0.keep (by omega) e1
    clear a0
    have t1 := o1
    clear o1
    have p1 := p0.trans (e1.mono (by omega))
    clear p0 e1
    go_wp2_with fail
    refine (specSort_any _ _ _ _ _ (t1.row.more (by omega)) (by omega)).mono ?_
    rw [HV.out]
    rintro e w2 ⟨A2, c2, rfl, hc2, o2, e2⟩
    have z2 := e2.size
    have a2 := a1.keep (by omega) e2
    clear a1
    have t2 := t1.keep (by omega) e2
    clear t1
    have s2 := o2
    clear o2
    have p2 := p1.trans (e2.mono (by omega))
    clear p1 e2
    clear t2
    go_wp2_with fail
    refine (toIntS_cap _ _ _ _ (a2.more (by omega)) (by omega)).mono ?_
    rintro e w3 ⟨A3, c3, rfl, hc3, o3, e3⟩
    have z3 := e3.size
    have a3 := a2.keep (by omega) e3
    clear a2
    have s3 := s2.keep (by omega) e3
    clear s2
    have x3 := o3
    clear o3
    have p3 := p2.trans (e3.mono (by omega))
    clear p2 e3
    go_wp2_with fail
    refine (impSort_any _ _ _ _ _ (x3.row.more (by omega)) hc3).mono ?_
    rw [HV.out]
    rintro e w4 ⟨A4, c4, rfl, hc4, o4, e4⟩
    have z4 := e4.size
    have a4 := a3.keep (by omega) e4
    clear a3
    have s4 := s3.keep (by omega) e4
    clear s3
    have x4 := x3.keep (by omega) e4
    clear x3
    have g4 := o4
    clear o4
    have p4 := p3.trans (e4.mono (by omega))
    clear p3 e4
    go_wp2_with fail
    refine (eqIntSS_any _ _ _ _ _ _ _ (g4.row.more (by omega)) (s4.row.more (by omega)) (by omega) HRL.out).mono ?_
    rw [HE1.out]
    rintro e w5 ⟨rfl, n5, hw5⟩
    have e5 : Below w4.heap.size w4 w5 := by rw [hw5]; exact drew_below _ _
    clear hw5
    have z5 := e5.size
    have a5 := a4.keep (by omega) e5
    clear a4
    have s5 := s4.keep (by omega) e5
    clear s4
    have x5 := x4.keep (by omega) e5
    clear x4
    have g5 := g4.keep (by omega) e5
    clear g4
    have p5 := p4.trans (e5.mono (by omega))
    clear p4 e5
    go_wp2_with fail
    refine (toIntS_cap _ _ _ _ (a5.more (by omega)) (by omega)).mono ?_
    rintro e w6 ⟨A6, c6, rfl, hc6, o6, e6⟩
    have z6 := e6.size
    have a6 := a5.keep (by omega) e6
    clear a5
    have s6 := s5.keep (by omega) e6
    clear s5
    have x6 := x5.keep (by omega) e6
    clear x5
    have g6 := g5.keep (by omega) e6
    clear g5
    have t6 := o6
    clear o6
    have p6 := p5.trans (e6.mono (by omega))
    clear p5 e6
    go_wp2_with fail
    refine (eqIntS_any _ _ _ _ _ _ _ (x6.row.more (by omega)) (t6.row.more (by omega)) (by omega)).mono ?_
    rw [HE2.out]
    rintro e w7 ⟨rfl, n7, hw7⟩
    have e7 : Below w6.heap.size w6 w7 := by rw [hw7]; exact drew_below _ _
    clear hw7
    have z7 := e7.size
    have a7 := a6.keep (by omega) e7
    clear a6
    have s7 := s6.keep (by omega) e7
    clear s6
    have x7 := x6.keep (by omega) e7
    clear x6
    have g7 := g6.keep (by omega) e7
    clear g6
    have t7 := t6.keep (by omega) e7
    clear t6
    have p7 := p6.trans (e7.mono (by omega))
    clear p6 e7
    clear t7
    go_wp2_with fail
    refine (markIntS_at _ _ _ 1 _ _ _ x7 (by omega) (by omega) (by omega)).mono ?_
    rintro e w8 ⟨rfl, m8, wr8⟩
    have z8 := wr8.size
    have a8 := wr8.elder a7 (by omega) (by omega)
    clear a7
    have s8 := (wr8.wide (Nat.le_refl _) (Nat.le_refl _)).mgridElder s7 (by omega) (by omega)
    clear s7
    have x8 := m8
    clear m8 x7
    have g8 := (wr8.wide (Nat.le_refl _) (Nat.le_refl _)).mgridApart g7 (by omega) (by omega)
    clear g7
    have p8 := p7.trans (wr8.below (by omega) (by omega))
    clear p7 wr8
    go_wp2_with fail
    refine (eqIntSS_any _ _ _ _ _ _ _ (g8.row.more (by omega)) (s8.row.more (by omega)) (by omega) HRL.out).mono ?_
    rw [HE1.out]
    rintro e w9 ⟨rfl, n9, hw9⟩
    have e9 : Below w8.heap.size w8 w9 := by rw [hw9]; exact drew_below _ _
    clear hw9
    have z9 := e9.size
    have a9 := a8.keep (by omega) e9
    clear a8
    have s9 := s8.keep (by omega) e9
    clear s8
    have x9 := x8.keep (by omega) e9
    clear x8
    have g9 := g8.keep (by omega) e9
    clear g8
    have p9 := p8.trans (e9.mono (by omega))
    clear p8 e9
    go_wp2_with fail
    refine (markIntSS_any _ _ _ 1 _ _ _ g9 (by omega) (by omega) (by omega) (by omega) (by omega)).mono ?_
    rintro e w10 ⟨rfl, m10, wr10⟩
    have z10 := wr10.size
    have a10 := wr10.elder a9 (by omega) (by omega)
    clear a9
    have s10 := wr10.mgridElder s9 (by omega) (by omega)
    clear s9
    have x10 := wr10.elder x9 (by omega) (by omega)
    clear x9
    have g10 := m10
    clear m10 g9
    have p10 := p9.trans (wr10.below (by omega) (by omega))
    clear p9 wr10
    go_wp2_with fail
    refine (heldIntSS_any _ _ V 1 _ (g10.row.more (by omega)) (by omega) (by omega) (by omega) (by omega)).mono ?_
    rintro e w' ⟨rfl, rfl⟩
    have ht1 : (((1 : Int) + (total V : Int)) != (1 + (total V : Int))) = false := by simp
    go_wp2_with fail
    refine (toIntS_cap _ _ _ _ (a10.more (by omega)) (by omega)).mono ?_
    rintro e w11 ⟨A11, c11, rfl, hc11, o11, e11⟩
    have z11 := e11.size
    have a11 := a10.keep (by omega) e11
    clear a10
    have s11 := s10.keep (by omega) e11
    clear s10
    have x11 := x10.keep (by omega) e11
    clear x10
    have g11 := g10.keep (by omega) e11
    clear g10
    have t11 := o11
    clear o11
    have p11 := p10.trans (e11.mono (by omega))
    clear p10 e11
    go_wp2_with fail
    refine (impSort_any _ _ _ _ _ (t11.row.more (by omega)) hc11).mono ?_
    rw [HV.out]
    rintro e w12 ⟨A12, c12, rfl, hc12, o12, e12⟩
    have z12 := e12.size
    have a12 := a11.keep (by omega) e12
    clear a11
    have s12 := s11.keep (by omega) e12
    clear s11
    have x12 := x11.keep (by omega) e12
    clear x11
    have g12 := g11.keep (by omega) e12
    clear g11
    have t12 := t11.keep (by omega) e12
    clear t11
    have h12 := o12
    clear o12
    have p12 := p11.trans (e12.mono (by omega))
    clear p11 e12
    clear t12
    go_wp2_with fail
    refine (eqIntSS_any _ _ _ _ _ _ _ (h12.row.more (by omega)) (s12.row.more (by omega)) (by omega) HRL.out).mono ?_
    rw [HE1.out]
    rintro e w13 ⟨rfl, n13, hw13⟩
    have e13 : Below w12.heap.size w12 w13 := by rw [hw13]; exact drew_below _ _
    clear hw13
    have z13 := e13.size
    have a13 := a12.keep (by omega) e13
    clear a12
    have s13 := s12.keep (by omega) e13
    clear s12
    have x13 := x12.keep (by omega) e13
    clear x12
    have g13 := g12.keep (by omega) e13
    clear g12
    have h13 := h12.keep (by omega) e13
    clear h12
    have p13 := p12.trans (e13.mono (by omega))
    clear p12 e13
    go_wp2_with fail
    refine (heldIntSS_any _ _ V 1 _ (g13.row.more (by omega)) (by omega) (by omega) (by omega) (by omega)).mono ?_
    rintro e w' ⟨rfl, rfl⟩
    go_wp2_with fail
    go_ret
    exact ⟨rfl, p13⟩
  · go_enter Try.func9, Try.ntmps9
    go_wp2
    go_ret
    exact ⟨rfl, Below.refl _ _⟩
end Go.Proofs.Ytdacjoeabndcjab
