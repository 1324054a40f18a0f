/- The walk of the law FnDepthsOf. No condition. -/
import Derived.Test.YtldbefmiabgkhaaTr
import Derived.Test.YtldbefmiabgkhaaEo
namespace Go.Proofs.Ytldbefmiabgkhaa
open Go.RowKit

theorem tab_cell {n : Nat} {f : Nat → Int} {w : World} {b o : Nat} (hc : ∀ j u, ((tab n f).map (Value.int .i64))[j]? = some u → w.cell? ⟨b, o + j, none⟩ = some u) {k : Nat} (hk : k < n) : w.cell? ⟨b, o + k, none⟩ = some (.int .i64 (f k)) := hc k _ (tab_vals_get hk)

set_option maxRecDepth 100000 in
set_option maxHeartbeats 4000000 in
theorem depthsOf_law (A : Option Addr) (c : Nat) (zs : List Int) (w : World) (hr : Own w 0 w.heap.size A (zs.map (Value.int .u8))) (hx : zs.length ≤ c ∧ c ≤ maxLen ∧ ∀ z ∈ zs, (Lit.int .u8 z).wf = true) :
    Calls Try.prog 10 #[.slice A zs.length c] w fun e w' => e = .returned (.bool true) ∧ Below w.heap.size w w' := by
  have hl : zs.length ≤ 9223372036854775807 := by have := hx.1; have := hx.2.1; unfold maxLen at this; omega
  have HX := Lib.hid hx
  clear hx
  by_cases h20 : zs.length ≤ 1048576
  · go_enter Try.func10, Try.ntmps10
    go_wp2_with fail
    refine (drawDepthsOf_any _ _ _ _ hr HX.out).mono ?_
    rintro e w1 ⟨B, d, qs, rfl, hq10, hdc, ho, hb1⟩
    have HO := Lib.hid ho
    have HB1 := Lib.hid hb1
    have s1 := hb1.size
    have hVl : (depL qs).length ≤ 10 := by
      unfold depL
      split
      · rw [tab_length]; exact hq10
      · simp
    obtain ⟨V, hV⟩ : ∃ V, depL qs = V := ⟨_, rfl⟩
    have HV := Lib.hid hV
    have HI := Lib.hid (fun (X : World) (h : Ints X X.heap.size B qs) => impDepthsOf_any B d qs X h (by omega))
    have HS := Lib.hid (fun (X : World) (h : Ints X X.heap.size B qs) => specDepthsOf_any B d qs X h (by omega))
    rw [hV] at hVl HI HS
    clear hV hb1 hr ho
    go_wp2_with fail
    refine (HI.out _ HO.out).mono ?_
    rintro e w2 ⟨A2, c2, rfl, hc2, o2, hb2⟩
    have HB2 := Lib.hid hb2
    have O2 := Lib.hid o2
    have HO2 := Lib.hid (HO.out.past hb2)
    clear o2 hb2 hc2
    go_wp2_with fail
    refine (HS.out _ HO2.out).mono ?_
    rintro e w3 ⟨A3, c3, rfl, hc3, o3, hb3⟩
    have HB3 := Lib.hid hb3
    have O3 := Lib.hid (And.intro (O2.out.keep (Nat.le_refl _) hb3) o3)
    have HO3 := Lib.hid (HO2.out.past hb3)
    clear o3 hb3 hc3
    go_wp2_with fail
    refine (equalInts_on _ _ _ _ V w3 (O3.out.1.row.more HB3.out.size) O3.out.2.row (by omega)).mono ?_
    rintro e w4 ⟨rfl, hb4⟩
    have HB4 := Lib.hid hb4
    have O4 := Lib.hid (show Ints w4 w4.heap.size A2 V from ((O3.out.1.keep HB3.out.size hb4).row).more (by have := HB3.out.size; have := hb4.size; omega))
    have HO4 := Lib.hid (HO3.out.past hb4)
    have HBB := Lib.hid (HB1.out.trans ((HB2.out.mono s1).trans ((HB3.out.mono (by have := HB2.out.size; omega)).trans (HB4.out.mono (by have := HB2.out.size; have := HB3.out.size; omega)))))
    clear hb4
    by_cases h0 : V.length = 0
    · have t0 : ((V.length : Int) == 0) = true := by simp [h0]
      have HV0 := Lib.hid h0
      clear h0
      go_wp2_with fail
      refine (HS.out _ HO4.out).mono ?_
      rintro e w5 ⟨A5, c5, rfl, hc5, o5, hb5⟩
      have HB5 := Lib.hid (HBB.out.trans (hb5.mono HBB.out.size))
      have O5 := Lib.hid (And.intro (O4.out.past hb5) o5)
      clear o5 hb5 hc5
      go_wp2_with fail
      refine (equalInts_on _ _ _ _ V w5 O5.out.1 O5.out.2.row (by omega)).mono ?_
      rintro e w6 ⟨rfl, hb6⟩
      have HB6 := Lib.hid (HB5.out.trans (hb6.mono HB5.out.size))
      clear hb6
      go_wp2_with fail
      go_ret
      exact ⟨rfl, HB6.out⟩
    · have t0 : ((V.length : Int) == 0) = false := by rw [beq_eq_false_iff_ne]; omega
      have hv : ansB qs = true := by
        cases h : ansB qs with
        | true => rfl
        | false => exact absurd (by rw [← HV.out, depL_no h]; rfl) h0
      have HAN := Lib.hid (ans_of hv)
      have HVE := Lib.hid (show V = tab qs.length (dv qs) by rw [← HV.out, depL_yes hv])
      have hVq : V.length = qs.length := by rw [HVE.out, tab_length]
      have hpos : 0 < qs.length := by omega
      have hveq : ((V.length : Int) == (qs.length : Int)) = true := by rw [hVq]; simp
      obtain ⟨b1, o1, rfl, _, hc1⟩ := HO4.out.open (by simp; omega)
      obtain ⟨b2, o2, rfl, _, hc2⟩ := O4.out.open (by simp; omega)
      rw [HVE.out] at hc2
      have HC := Lib.hid (And.intro (fun k (hk : k < qs.length) => ints_at hc1 hk) (fun k (hk : k < qs.length) => tab_cell hc2 hk))
      have HVQ := Lib.hid hVq
      clear h0 hv hVq hc1 hc2
      rw [HVQ.out] at t0 ⊢
      go_wp2_with fail
      clear t0
      go_loopw [5] (fun i wr => ∃ (k n : Nat), k ≤ qs.length ∧ i = .int .i64 k ∧ wr = w4.drewN n) (fun i _ => qs.length - (intOf i).toNat)
      case atStart => exact ⟨0, 0, by omega, rfl, rfl⟩
      case round =>
        obtain ⟨k, n, hk, rfl, rfl⟩ := hrel
        by_cases hlt : k < qs.length
        · have x1 := HC.out.1 k hlt
          have x2 := HC.out.2 k hlt
          have HZ := Lib.hid (getD_get hlt)
          have hlo := HAN.out.lo k hlt
          have hhi := HAN.out.hi k hlt
          obtain ⟨z, hz⟩ : ∃ z, qs[k] = z := ⟨_, rfl⟩
          rw [hz] at x1 HZ
          rw [HZ.out] at hlo hhi
          have hkI : (k : Int) < (qs.length : Int) := by omega
          have hk0 : (0 : Int) ≤ (k : Int) := by omega
          clear hz
          by_cases hzn : z < 0
          · rw [dv_root (by rw [HZ.out]; exact hzn)] at x2
            have t1 : decide (z < 0) = true := decide_eq_true hzn
            have t2 : decide ((0 : Int) ≤ z) = false := decide_eq_false (by omega)
            clear hzn
            go_wp2
            go_quiet (fail)
            go_simp
            clear t1 t2
            go_wp2
            go_roundw
            case rel => exact ⟨k + 1, _, by omega, by go_num, rfl⟩
            case measure => simp [intOf]; omega
          · obtain ⟨j, rfl⟩ : ∃ j : Nat, z = j := ⟨z.toNat, by omega⟩
            have hjn : j < qs.length := by omega
            have x3 := HC.out.2 j hjn
            have hdb := dv_bd HAN.out j hjn
            rw [dv_step HAN.out hlt HZ.out] at x2
            obtain ⟨dj, hdj⟩ : ∃ dj, dv qs j = dj := ⟨_, rfl⟩
            rw [hdj] at x2 x3 hdb
            have t1 : decide ((j : Int) < 0) = false := decide_eq_false (by omega)
            have t2 : decide ((0 : Int) ≤ (j : Int)) = true := decide_eq_true (by omega)
            have t3 : ((dj + 1) != (dj + 1)) = false := by simp
            have hjI : (j : Int) < (qs.length : Int) := by omega
            have hw : IntKind.i64.wrap (dj + 1) = dj + 1 := IntWalk.i64_in _ (by omega)
            clear hzn hdj
            go_wp2
            go_quiet (fail)
            go_simp
            clear t1 t2 t3 hw
            go_wp2
            go_roundw
            case rel => exact ⟨k + 1, _, by omega, by go_num, rfl⟩
            case measure => simp [intOf]; omega
        · have hke : k = qs.length := by omega
          subst hke
          go_wp2_with fail
          go_ret
          exact ⟨by simp, below_drewN HBB.out n⟩
  · go_enter Try.func10, Try.ntmps10
    go_wp2
    go_ret
    exact ⟨rfl, Below.refl _ _⟩
end Go.Proofs.Ytldbefmiabgkhaa
