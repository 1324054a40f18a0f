/- The walk of the law FnStacksBackwards. No condition. -/
import Derived.Test.YthfmmdigecjfnaaJ6
namespace Go.Proofs.Ythfmmdigecjfnaa
open Go.RowKit

set_option maxRecDepth 100000 in
set_option maxHeartbeats 1000000 in
theorem stacksBackwards_law (A : Option Addr) (c : Nat) (zs : List Int) (w : World) (hr : Own w 0 w.heap.size A (zs.map (Value.int .u8))) (hx : zs.length ≤ c ∧ c ≤ maxLen ∧ ∀ z ∈ zs, (Lit.int .u8 z).wf = true) :
    Calls Try.prog 13 #[.slice A zs.length c] w fun e w' => e = .returned (.bool true) ∧ Below w.heap.size w w' := by
  have hl : zs.length ≤ 9223372036854775807 := by have := hx.1; have := hx.2.1; unfold maxLen at this; omega
  have HX := Lib.hid hx
  clear hx
  by_cases h20 : zs.length ≤ 1048576
  · go_enter Try.func13, Try.ntmps13
    go_wp2_with fail
    refine (drawRisingOf_any _ _ _ _ hr HX.out).mono ?_
    rintro e w1 ⟨B, d, ds, rfl, h10, hdc, ho, hb1⟩
    obtain ⟨q, hq⟩ : ∃ q, risV ds = q := ⟨_, rfl⟩
    have HQ := Lib.hid hq
    have hqq : (q != q) = false := by simp
    clear hq
    go_wp2_with fail
    refine (impRisingOf_any _ _ _ _ ho hdc).mono ?_
    rintro e w2 ⟨rfl, hb2⟩
    rw [HQ.out]
    have ho2 := ho.past hb2
    go_wp2_with fail
    refine (specRisingOf_any _ _ _ _ ho2 (by omega)).mono ?_
    rintro e w3 ⟨rfl, hb3⟩
    rw [HQ.out]
    have ho3 := ho2.past hb3
    have hb13 := (hb1.trans (hb2.mono hb1.size)).trans (hb3.mono (by have := hb1.size; have := hb2.size; omega))
    clear ho ho2 hb1 hb2 hb3
    go_wp2_with fail
    refine (impRisingOf_any _ _ _ _ ho3 hdc).mono ?_
    rintro e w4 ⟨rfl, hb4⟩
    rw [HQ.out]
    have ho4 := ho3.past hb4
    have hb14 := hb13.trans (hb4.mono hb13.size)
    clear ho3 hb13 hb4
    by_cases h1 : q < 1
    · have hd1 : decide (q < 1) = true := decide_eq_true h1
      go_wp2_with fail
      go_ret
      exact ⟨rfl, hb14⟩
    · have hd1 : decide (q < 1) = false := decide_eq_false h1
      have hv : rowB 9 ds = true := by
        refine Decidable.by_contra fun hc => ?_
        have := risV_no (show rowB 9 ds = false by simpa using hc)
        rw [HQ.out] at this; omega
      have hqv := risV_yes hv
      rw [HQ.out] at hqv
      have hl9 := rowB_len hv
      have hrv := risV_yes (rowB_rev hv)
      have hadd := lis_rev_add ds
      have hpos := lis_pos (zs := ds.reverse) (by have := lis_le_len ds; simp; omega)
      have hle := lis_le_len ds
      obtain ⟨r, hre⟩ : ∃ r, risV ds.reverse = r := ⟨_, rfl⟩
      rw [hre] at hrv
      have HRE := Lib.hid hre
      have hb1' : 1 ≤ q ∧ q ≤ 9 := by omega
      have hb2' : 1 ≤ r ∧ r ≤ 10 := by omega
      have hsum : q + r ≤ (ds.length : Int) + 1 := by omega
      have hd2 : decide (q + r ≤ (ds.length : Int) + 1) = true := decide_eq_true hsum
      have hd3 : decide (2 ≤ q + r) = true := decide_eq_true (by omega)
      have hd9 : ds.length ≤ 1000 := by omega
      obtain ⟨hb1a, hb1b⟩ := hb1'
      obtain ⟨hb2a, hb2b⟩ := hb2'
      clear hv hqv hrv hadd hpos hle hre
      go_wp2_with fail
      refine (backwards_any _ _ _ _ ho4 hd9).mono ?_
      rintro e w5 ⟨A5, c5, rfl, hc5, ho5, hb5⟩
      have hi5 := impRisingOf_any A5 c5 ds.reverse w5 ho5.row (by rw [List.length_reverse]; exact hc5)
      rw [List.length_reverse, HRE.out] at hi5
      have HI5 := Lib.hid hi5
      have ho5' := ho4.past hb5
      have hb15 := hb14.trans (hb5.mono hb14.size)
      clear hi5 ho5 ho4 hb14 hb5
      go_wp2_with fail
      refine HI5.out.mono ?_
      rintro e w6 ⟨rfl, hb6⟩
      have ho6 := ho5'.past hb6
      have hb16 := hb15.trans (hb6.mono hb15.size)
      clear ho5' hb15 hb6
      go_wp2_with fail
      refine (backwards_any _ _ _ _ ho6 hd9).mono ?_
      rintro e w7 ⟨A7, c7, rfl, hc7, ho7, hb7⟩
      have hi7 := impRisingOf_any A7 c7 ds.reverse w7 ho7.row (by rw [List.length_reverse]; exact hc7)
      rw [List.length_reverse, HRE.out] at hi7
      have HI7 := Lib.hid hi7
      have hb17 := hb16.trans (hb7.mono hb16.size)
      clear hi7 ho7 ho6 hb16 hb7
      go_wp2_with fail
      refine HI7.out.mono ?_
      rintro e w8 ⟨rfl, hb8⟩
      have hb18 := hb17.trans (hb8.mono hb17.size)
      clear hb17 hb8
      go_wp2_with fail
      go_ret
      exact ⟨rfl, hb18⟩
  · go_enter Try.func13, Try.ntmps13
    go_wp2
    go_ret
    exact ⟨rfl, Below.refl _ _⟩
end Go.Proofs.Ythfmmdigecjfnaa
