/- The walk of the law FnStacksOf. No condition. -/
import Derived.Test.YthfmmdigecjfnaaJ6
namespace Go.Proofs.Ythfmmdigecjfnaa
open Go.RowKit

theorem grt_stacks {zs : List Int} (h : 0 < zs.length) : grt (stacksL zs) (stacksL zs).length + 1 = (lis zs : Int) := by
  have hp := lis_pos h
  have h1 := grt_at (stacksL zs) (stacksL zs).length
  have hm := stacksL_all (zs := zs) (s := lis zs - 1) (by omega)
  obtain ⟨i, hi, he⟩ := List.getElem_of_mem hm
  have h2 := grt_ge (zs := stacksL zs) hi
  rw [getD_get hi, he] at h2
  rcases h1 with h1 | ⟨j, hj, h1⟩
  · omega
  · have hj' : j < zs.length := by rw [stacksL_len] at hj; exact hj
    have h3 : (stacksL zs).getD j 0 = (stk zs j : Int) := by unfold stacksL; rw [getD_tab _ hj']
    have := stk_le_lis hj'
    rw [h3] at h1
    omega

set_option maxRecDepth 100000 in
set_option maxHeartbeats 1000000 in
theorem stacksOf_law (A : Option Addr) (c : Nat) (zs : List Int) (w : World) (hr : Own w 0 w.heap.size A (zs.map (Value.int .u8))) (hx : zs.length ≤ c ∧ c ≤ maxLen ∧ ∀ z ∈ zs, (Lit.int .u8 z).wf = true) :
    Calls Try.prog 8 #[.slice A zs.length c] w fun e w' => e = .returned (.bool true) ∧ Below w.heap.size w w' := by
  have hl : zs.length ≤ 9223372036854775807 := by have := hx.1; have := hx.2.1; unfold maxLen at this; omega
  have HX := Lib.hid hx
  clear hx
  by_cases h20 : zs.length ≤ 1048576
  · go_enter Try.func8, Try.ntmps8
    go_wp2_with fail
    refine (drawStacksOf_any _ _ _ _ hr HX.out).mono ?_
    rintro e w1 ⟨B, d, ds, rfl, h10, hdc, ho, hb1⟩
    have hql := stkV_len ds
    obtain ⟨q, hq⟩ : ∃ q, stkV ds = q := ⟨_, rfl⟩
    rw [hq] at hql
    have HQ := Lib.hid hq
    clear hq
    go_wp2_with fail
    refine (impStacksOf_any _ _ _ _ ho hdc).mono ?_
    rw [HQ.out]
    rintro e w2 ⟨A2, c2, rfl, hc2, o2, hb2⟩
    have ho2 := ho.past hb2
    have hb12 := hb1.trans (hb2.mono hb1.size)
    have oq2 := o2.row
    clear ho hb1 hb2 o2
    go_wp2_with fail
    refine (specStacksOf_any _ _ _ _ ho2 (by omega)).mono ?_
    rw [HQ.out]
    rintro e w3 ⟨A3, c3, rfl, hc3, o3, hb3⟩
    have ho3 := ho2.past hb3
    have oq3 := oq2.past hb3
    have hb13 := hb12.trans (hb3.mono hb12.size)
    have os3 := o3.row
    clear ho2 oq2 hb12 hb3 o3
    go_wp2_with fail
    refine (equalInts_any _ _ _ _ _ _ _ oq3 os3 (by omega)).mono ?_
    rw [eqI_refl']
    rintro e w4 ⟨rfl, n4, hw4⟩
    have hb4 : Below w3.heap.size w3 w4 := by rw [hw4]; exact below_drewN (Below.refl _ _) n4
    have ho4 := ho3.past hb4
    have oq4 := oq3.past hb4
    have hb14 := hb13.trans (hb4.mono hb13.size)
    clear ho3 oq3 hb13 hb4 os3 hw4
    by_cases h0 : q.length = 0
    · have hz : ((q.length : Int) == 0) = true := beq_iff_eq.2 (by omega)
      clear h0
      go_wp2_with fail
      refine (specStacksOf_any _ _ _ _ ho4 (by omega)).mono ?_
      rw [HQ.out]
      rintro e w5 ⟨A5, c5, rfl, hc5, o5, hb5⟩
      have oq5 := oq4.past hb5
      have hb15 := hb14.trans (hb5.mono hb14.size)
      have os5 := o5.row
      clear oq4 hb14 hb5 o5
      go_wp2_with fail
      refine (equalInts_any _ _ _ _ _ _ _ oq5 os5 (by omega)).mono ?_
      rw [eqI_refl']
      rintro e w6 ⟨rfl, n6, rfl⟩
      go_wp2_with fail
      go_ret
      exact ⟨rfl, below_drewN hb15 n6⟩
    · have hz : ((q.length : Int) == 0) = false := beq_eq_false_iff_ne.2 (by omega)
      have hv : rowB 9 ds = true := by
        refine Decidable.by_contra fun hc => ?_
        have := stkV_no (show rowB 9 ds = false by simpa using hc)
        rw [HQ.out] at this; rw [this] at h0; exact h0 rfl
      have hqs : q = stacksL ds := by rw [← HQ.out, stkV_yes hv]
      have hl9 := rowB_len hv
      have hpos : 0 < ds.length := by rw [hqs, stacksL_len] at h0; omega
      have hg := grt_stacks hpos
      have hun := unl_stacks hv
      have hdf := diffC_stacks ds
      have hrv := risV_yes hv
      have hll := lis_le_len ds
      rw [← hqs] at hg hun hdf
      obtain ⟨g, hge⟩ : ∃ g, grt q q.length = g := ⟨_, rfl⟩
      rw [hge] at hg
      obtain ⟨r, hre⟩ : ∃ r, lis ds = r := ⟨_, rfl⟩
      rw [hre] at hg hdf hrv hll
      have hw1 : IntKind.i64.wrap (g + 1) = (r : Int) := by rw [hg]; exact IntWalk.i64_in _ (by omega)
      have HF := Lib.hid (And.intro hge (And.intro hun (And.intro hdf hrv)))
      have hq9 : q.length ≤ 1000 := by omega
      clear h0 hv hqs hg hun hdf hrv hge hre hpos hll
      go_wp2_with fail
      refine (greatestOf_any _ _ _ _ oq4 (by omega)).mono ?_
      rw [HF.out.1]
      rintro e w' ⟨rfl, rfl⟩
      go_wp2_with fail
      refine (impRisingOf_any _ _ _ _ ho4 hdc).mono ?_
      rw [HF.out.2.2.2]
      rintro e w5 ⟨rfl, hb5⟩
      have ho5 := ho4.past hb5
      have oq5 := oq4.past hb5
      have hb15 := hb14.trans (hb5.mono hb14.size)
      clear ho4 oq4 hb14 hb5
      go_wp2_with fail
      refine (impCanUnload_any _ _ _ _ _ _ _ ho5 oq5 hdc (by omega) (by omega)).mono ?_
      rw [HF.out.2.1]
      rintro e w6 ⟨rfl, hb6⟩
      have oq6 := oq5.past hb6
      have hb16 := hb15.trans (hb6.mono hb15.size)
      clear ho5 oq5 hb15 hb6
      go_wp2_with fail
      refine (different2_any _ _ _ _ oq6 hc2 (by omega)).mono ?_
      rw [HF.out.2.2.1]
      rintro e w7 ⟨rfl, n7, hw7⟩
      have hb7 : Below w6.heap.size w6 w7 := by rw [hw7]; exact below_drewN (Below.refl _ _) n7
      have oq7 := oq6.past hb7
      have hb17 := hb16.trans (hb7.mono hb16.size)
      clear oq6 hb16 hb7 hw7
      go_wp2_with fail
      refine (greatestOf_any _ _ _ _ oq7 (by omega)).mono ?_
      rw [HF.out.1]
      rintro e w' ⟨rfl, rfl⟩
      go_wp2_with fail
      go_ret
      exact ⟨rfl, hb17⟩
  · go_enter Try.func8, Try.ntmps8
    go_wp2
    go_ret
    exact ⟨rfl, Below.refl _ _⟩
end Go.Proofs.Ythfmmdigecjfnaa
