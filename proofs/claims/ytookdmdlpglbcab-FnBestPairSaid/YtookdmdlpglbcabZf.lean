/- The walk of the law FnBestPair. No condition. -/
import Derived.Test.YtookdmdlpglbcabZe
import Derived.Test.YtookdmdlpglbcabZa
import Derived.Test.YtookdmdlpglbcabYt
namespace Go.Proofs.Ytookdmdlpglbcab
open Go.RowKit

theorem pL_stamps {p : Nat × Nat} (h : okP p) : stampsB (pL p) = true := by
  obtain ⟨h1, h2, h3⟩ := h
  rw [stampsB_all]
  · rw [inRI]; simp [pL]
  · rw [List.all_eq_true]
    intro i hi
    simp only [pL, List.length_cons, List.length_nil, Nat.zero_add, List.mem_range] at hi
    match i, hi with
    | 0, _ =>
      have e : okS (pL p) 0 = (inR (p.1 : Int) 1 12 && true) := rfl
      rw [e, inRI.2 (by omega)]; rfl
    | 1, _ =>
      have e : okS (pL p) 1 = (inR (p.2 : Int) 1 12 && (decide (1 = 0) || decide ((p.1 : Int) < (p.2 : Int)))) := rfl
      rw [e, inRI.2 (by omega), decide_eq_true (show (p.1 : Int) < (p.2 : Int) by omega)]; rfl

set_option maxRecDepth 100000 in
set_option maxHeartbeats 4000000 in
theorem fnBestPair_law (A : Option Addr) (c : Nat) (zs : List Int) (w : World) (hr : Own w 0 w.heap.size A (zs.map (Value.int .u8))) (hx : zs.length ≤ c ∧ c ≤ maxLen ∧ ∀ z ∈ zs, (Lit.int .u8 z).wf = true) :
    Calls Try.prog 7 #[.slice A zs.length c] w fun e w' => e = .returned (.bool true) ∧ Below w.heap.size w w' := by
  have hl : zs.length ≤ 9223372036854775807 := by have := hx.1; have := hx.2.1; unfold maxLen at this; omega
  have HX := Lib.hid hx
  clear hx
  by_cases h20 : zs.length ≤ 1048576
  · go_enter Try.func7, Try.ntmps7
    go_wp2_with fail
    refine (drawBestPair_any _ _ _ _ hr HX.out).mono ?_
    rintro e w1 ⟨most, rfl, hmb, hb1⟩
    obtain ⟨q, hq⟩ : ∃ q, bpL most = q := ⟨_, rfl⟩
    obtain ⟨r, hrr⟩ : ∃ r, bpR most = r := ⟨_, rfl⟩
    have hql : q.length ≤ 2 := by rw [← hq]; exact bpL_len most
    have HQ := Lib.hid hq
    have HR := Lib.hid hrr
    clear hq hrr
    go_wp2_with fail
    refine (impBP_ret _ _ _ _ HQ.out HR.out).mono ?_
    rintro e w2 ⟨A2, c2, rfl, hc2, ho2, hb2⟩
    have HB2 := Lib.hid (hb1.trans (hb2.mono hb1.size))
    clear hb1 hb2
    go_wp2_with fail
    refine (specBP_ret _ _ _ _ HQ.out HR.out).mono ?_
    rintro e w3 ⟨A3, c3, rfl, hc3, ho3, hb3⟩
    have ho23 := (ho2.past hb3).row
    have HB3 := Lib.hid (HB2.out.trans (hb3.mono HB2.out.size))
    clear hb3 ho2
    go_wp2_with fail
    refine (equalInts_self _ _ _ _ q _ ho23 ho3.row (by omega)).mono ?_
    rintro e w4 ⟨rfl, n4, rfl⟩
    have hbd := drewBelow w3 n4
    have ho24 := ho23.past hbd
    have ho34 := ho3.row.past hbd
    have HB4 := Lib.hid (HB3.out.trans (hbd.mono HB3.out.size))
    obtain ⟨w4, hw4⟩ : ∃ w4, w3.drewN n4 = w4 := ⟨_, rfl⟩
    rw [hw4] at ho24 ho34 HB4 hbd ⊢
    clear hw4 hbd ho23 ho3
    have hrn : (r != r) = false := by simp
    have hre : (r == r) = true := by simp
    by_cases hk : inR most 1 6 = true
    · obtain ⟨m, rfl⟩ := Int.eq_ofNat_of_zero_le (show 0 ≤ most by omega)
      have hkb := inRI.1 hk
      have hB := HR.out
      rw [bpR_yes hk, bestQ] at hB
      have hfin := bestQ_fin ⟨m, by omega⟩ (by show 1 ≤ m; omega)
      simp only [bestQ] at hfin
      have hok := bOut_ok (most := m) 10 (by omega)
      have hqL := HQ.out
      rw [bpL_yes hk] at hqL
      have hst : stampsB q = true := by rw [← hqL]; exact pL_stamps hok
      have hre2 : reaV q (m : Int) = r := by rw [reaV_yes hst hk, ← hB, ← hqL]; rfl
      obtain ⟨M, hM⟩ : ∃ M, m * m = M := ⟨_, rfl⟩
      have hMb : M ≤ 36 := by rw [← hM]; exact Nat.mul_le_mul (show m ≤ 6 by omega) (show m ≤ 6 by omega)
      have hMi : (m : Int) * (m : Int) = (M : Int) := by rw [← hM]; exact (Int.natCast_mul _ _).symm
      rw [hM] at hfin
      rw [hfin] at hB
      have hw1 : IntKind.i64.wrap ((m : Int) * (m : Int)) = (M : Int) := by rw [hMi]; exact IntWalk.i64_in _ (by omega)
      have hw2 : IntKind.i64.wrap (6 * (m : Int)) = 6 * (m : Int) := IntWalk.i64_in _ (by omega)
      have hw3 : IntKind.i64.wrap ((M : Int) + 6 * (m : Int)) = (M : Int) + 6 * (m : Int) := IntWalk.i64_in _ (by omega)
      have hw4 : IntKind.i64.wrap ((M : Int) + 6 * (m : Int) + 1) = (M : Int) + 6 * (m : Int) + 1 := IntWalk.i64_in _ (by omega)
      have htd : Int.tdiv ((M : Int) + 6 * (m : Int) + 1) 4 = r := by rw [Int.tdiv_eq_ediv_of_nonneg (by omega), ← hB]; omega
      have hr0 : ¬ r < 0 := by omega
      have hrb : r ≤ 100 := by omega
      have hwr : IntKind.i64.wrap r = r := IntWalk.i64_in _ (by omega)
      have HC := Lib.hid (impRO_ret A2 c2 q (m : Int) w4 ho24 r hre2)
      clear hkb hB hfin hok hqL hst hre2 hM hMb hMi ho34 ho24 hk
      go_wp2_with fail
      refine HC.out.mono ?_
      rintro e w5 ⟨rfl, hb5⟩
      have HB5 := Lib.hid (HB4.out.trans (hb5.mono HB4.out.size))
      clear hb5
      go_wp2
      go_ret
      exact ⟨rfl, HB5.out⟩
    · have hk' : inR most 1 6 = false := by simpa using hk
      have hr1 : r = -1 := by rw [← HR.out]; exact bpR_no hk'
      have hr0 : r < 0 := by omega
      clear hk hk' hr1
      go_wp2_with fail
      refine (equalInts_self _ _ _ _ q _ ho24 ho34 (by omega)).mono ?_
      rintro e w5 ⟨rfl, n5, rfl⟩
      go_wp2
      go_ret
      exact ⟨rfl, below_drewN HB4.out _⟩
  · go_enter Try.func7, Try.ntmps7
    go_wp2
    go_ret
    exact ⟨rfl, Below.refl _ _⟩
end Go.Proofs.Ytookdmdlpglbcab
