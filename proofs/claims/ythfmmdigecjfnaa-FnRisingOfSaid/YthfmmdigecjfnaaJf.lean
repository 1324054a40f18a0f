/- The walks of the laws FnRisingOf and FnStacksBackwards. No condition. -/
import Derived.Test.YthfmmdigecjfnaaJ6
namespace Go.Proofs.Ythfmmdigecjfnaa
open Go.RowKit

theorem eqI_iff {a b : List Int} : eqI a b = decide (a = b) := rfl
theorem lis_order {zs : List Int} (hv : rowB 9 zs = true) : ((lis zs : Int) == (zs.length : Int)) = eqI zs (tab zs.length fun j => (j : Int)) := by
  by_cases h : lis zs = zs.length
  · rw [show ((lis zs : Int) == (zs.length : Int)) = true from beq_iff_eq.2 (by omega)]
    unfold eqI
    exact (decide_eq_true (lis_all hv h)).symm
  · rw [show ((lis zs : Int) == (zs.length : Int)) = false from beq_eq_false_iff_ne.2 (by omega)]
    unfold eqI
    refine (decide_eq_false fun e => h ?_).symm
    have h2 := lis_tab zs.length
    rw [← e] at h2
    exact h2

set_option maxRecDepth 100000 in
set_option maxHeartbeats 1000000 in
theorem risingOf_law (A : Option Addr) (c : Nat) (zs : List Int) (w : World) (hr : Own w 0 w.heap.size A (zs.map (Value.int .u8))) (hx : zs.length ≤ c ∧ c ≤ maxLen ∧ ∀ z ∈ zs, (Lit.int .u8 z).wf = true) :
    Calls Try.prog 9 #[.slice A zs.length c] w fun e w' => e = .returned (.bool true) ∧ Below w.heap.size w w' := by
  have hl : zs.length ≤ 9223372036854775807 := by have := hx.1; have := hx.2.1; unfold maxLen at this; omega
  have HX := Lib.hid hx
  clear hx
  by_cases h20 : zs.length ≤ 1048576
  · go_enter Try.func9, Try.ntmps9
    go_wp2_with fail
    refine (drawRisingOf_any _ _ _ _ hr HX.out).mono ?_
    rintro e w1 ⟨B, d, ds, rfl, h10, hdc, ho, hb1⟩
    obtain ⟨q, hq⟩ : ∃ q, risV ds = q := ⟨_, rfl⟩
    have HQ := Lib.hid hq
    have hqq : (q != q) = false := by simp
    have hqe : (q == q) = true := by simp
    clear hq
    go_wp2_with fail
    refine (impRisingOf_any _ _ _ _ ho hdc).mono ?_
    rintro e w2 ⟨rfl, hb2⟩
    rw [HQ.out]
    have ho2 := ho.past hb2
    go_wp2_with fail
    refine (specRisingOf_any _ _ _ _ ho2 (by omega)).mono ?_
    rintro e w3 ⟨rfl, hb3⟩
    rw [HQ.out]
    have ho3 := ho2.past hb3
    have hb13 := (hb1.trans (hb2.mono hb1.size)).trans (hb3.mono (by have := hb1.size; have := hb2.size; omega))
    by_cases hv : rowB 9 ds = true
    · have hqv := risV_yes hv
      rw [HQ.out] at hqv
      have hl9 := rowB_len hv
      have hrv := risV_yes (rowB_rev hv)
      have hmul := lis_rev_mul hv
      have hle := lis_le_len ds
      have hler := lis_le_len ds.reverse
      rw [List.length_reverse] at hler
      have heq := lis_order hv
      rw [← hqv] at heq
      obtain ⟨r, hre⟩ : ∃ r, risV ds.reverse = r := ⟨_, rfl⟩
      rw [hre] at hrv
      have HRE := Lib.hid hre
      obtain ⟨bl, hbl⟩ : ∃ bl, eqI ds (tab ds.length fun j => (j : Int)) = bl := ⟨_, rfl⟩
      rw [hbl] at heq
      have HBL := Lib.hid hbl
      obtain ⟨p, hp⟩ : ∃ p, q * r = p := ⟨_, rfl⟩
      have hpv : p = ((lis ds * lis ds.reverse : Nat) : Int) := by rw [← hp, hqv, hrv, Int.natCast_mul]
      have hp81 : lis ds * lis ds.reverse ≤ 9 * 9 := Nat.mul_le_mul (by omega) (by omega)
      have hpw : IntKind.i64.wrap (q * r) = p := by rw [hp]; exact IntWalk.i64_in _ (by omega)
      have hge : decide ((ds.length : Int) ≤ p) = true := decide_eq_true (by omega)
      have hleq : decide (q ≤ (ds.length : Int)) = true := decide_eq_true (by omega)
      have hq0 : decide (q < 0) = false := decide_eq_false (by omega)
      have hbb : (bl == bl) = true := by simp
      have hd9 : ds.length ≤ 1000 := by omega
      clear hv hqv hrv hmul hle hler hre hbl hp hpv hp81
      go_wp2_with fail
      refine (backwards_any _ _ _ _ ho3 hd9).mono ?_
      rintro e w4 ⟨A4, c4, rfl, hc4, ho4, hb4⟩
      have hi4 := impRisingOf_any A4 c4 ds.reverse w4 ho4.row (by rw [List.length_reverse]; exact hc4)
      rw [List.length_reverse, HRE.out] at hi4
      have HI4 := Lib.hid hi4
      have ho4' := ho3.past hb4
      have hb14 := hb13.trans (hb4.mono hb13.size)
      clear hi4 ho4
      go_wp2_with fail
      refine HI4.out.mono ?_
      rintro e w5 ⟨rfl, hb5⟩
      have ho5 := ho4'.past hb5
      have hb15 := hb14.trans (hb5.mono hb14.size)
      go_wp2_with fail
      refine (inOrder_any ds.length _ hd9).mono ?_
      rintro e w6 ⟨A6, c6, rfl, hc6, ho6, hb6⟩
      have ho6' := ho5.past hb6
      have hb16 := hb15.trans (hb6.mono hb15.size)
      have hi6 := equalInts_any B A6 d c6 ds (tab ds.length fun j => (j : Int)) w6 ho6' ho6.row (by omega)
      rw [tab_length, HBL.out] at hi6
      have HI6 := Lib.hid hi6
      clear hi6 ho6
      go_wp2_with fail
      refine HI6.out.mono ?_
      rintro e w7 ⟨rfl, n7, rfl⟩
      go_wp2_with fail
      go_ret
      exact ⟨rfl, below_drewN hb16 n7⟩
    · have hq1 : q = -1 := by rw [← HQ.out]; exact risV_no (by simpa using hv)
      have hneg : decide (q < 0) = true := decide_eq_true (by omega)
      clear hv hq1
      go_wp2_with fail
      refine (specRisingOf_any _ _ _ _ ho3 (by omega)).mono ?_
      rintro e w4 ⟨rfl, hb4⟩
      rw [HQ.out]
      go_wp2_with fail
      go_ret
      exact ⟨rfl, hb13.trans (hb4.mono hb13.size)⟩
  · go_enter Try.func9, Try.ntmps9
    go_wp2
    go_ret
    exact ⟨rfl, Below.refl _ _⟩
end Go.Proofs.Ythfmmdigecjfnaa
