/- Powers and rows: contracts of spec. No condition. -/
import Derived.Test.YtdgdlmpmoafkgaaS0
import Derived.Test.YtdgdlmpmoafkgaaA1
import Derived.Test.YtdgdlmpmoafkgaaRows
namespace Go.Proofs.Ytdgdlmpmoafkgaa
open Go.RowKit

set_option maxRecDepth 100000 in
theorem power_any (x n : Nat) (w : World) (hx : 1 ≤ x) (hb : x ^ n ≤ 1000000000000000) (hn : n ≤ 1000000) :
    Calls Try.prog 60 #[.int .i64 x, .int .i64 n] w fun e w' => e = .returned (.int .i64 ((x ^ n : Nat) : Int)) ∧ w = w' := by
  have HB := Lib.hid hb
  clear hb
  have hle : ∀ j, j ≤ n → x ^ j ≤ 1000000000000000 := fun j hj => Nat.le_trans (Nat.pow_le_pow_right hx hj) HB.out
  have HL := Lib.hid hle
  clear hle
  go_enter Try.func60, Try.ntmps60
  go_wp2
  go_loop [1, 5] (fun m out => ∃ j : Nat, j ≤ n ∧ m = .int .i64 ((n - j : Nat) : Int) ∧ out = .int .i64 ((x ^ j : Nat) : Int)) (fun m _ => (intOf m).toNat)
  case atStart => exact ⟨0, by omega, rfl, rfl⟩
  case round =>
    obtain ⟨j, hj, rfl, rfl⟩ := hrel
    obtain ⟨a, ha⟩ : ∃ a, x ^ j = a := ⟨_, rfl⟩
    by_cases hlt : j < n
    · have h1 := HL.out j hj
      have h2 := HL.out (j + 1) (by omega)
      rw [Nat.pow_succ, ha] at h2
      rw [ha] at h1
      have hm1 : (0 : Int) ≤ (a : Int) * (x : Int) := by rw [← Int.natCast_mul]; omega
      have hm2 : (a : Int) * (x : Int) ≤ 1000000000000000 := by rw [← Int.natCast_mul]; omega
      have HA := Lib.hid ha
      obtain ⟨d, hd⟩ : ∃ d, n - j = d + 1 := ⟨n - j - 1, by omega⟩
      have HD := Lib.hid hd
      have hd1 : d ≤ 1000000 := by omega
      rw [ha, hd]
      clear h2 ha hd
      have hd0 : (0 : Int) < ((d + 1 : Nat) : Int) := by omega
      go_wp2
      go_round
      case rel => exact ⟨j + 1, by omega, by rw [show n - (j + 1) = d by have := HD.out; omega], by rw [Nat.pow_succ, HA.out, Int.natCast_mul]⟩
      case measure => simp [intOf]
    · have hj' : j = n := by omega
      subst hj'
      rw [Nat.sub_self, ha]
      have HA := Lib.hid ha
      clear ha
      go_wp2
      go_ret
      exact ⟨ret_int (by rw [← HA.out]; simp), rfl⟩

set_option maxRecDepth 100000 in
set_option maxHeartbeats 1000000 in
theorem specValidRow_any (A : Option Addr) (c : Nat) (zs : List Int) (m : Nat) (w : World) (hr : Ints w w.heap.size A zs) (hm : m ≤ 9) (hl : zs.length ≤ 9000000000000000000) :
    Calls Try.prog 55 #[.slice A zs.length c, .int .i64 m] w fun e w' => e = .returned (.bool (rowB m zs)) ∧ w = w' := by
  by_cases hlm : zs.length ≤ m
  · have hle9 : zs.length ≤ 9 := by omega
    have hdm : decide (m < zs.length) = false := decide_eq_false (by omega)
    go_enter Try.func55, Try.ntmps55
    go_wp2
    go_loop [5, 6] (fun s i => ∃ k S : Nat, k ≤ zs.length ∧ i = .int .i64 k ∧ s = .int .i64 S ∧ bitsOf S (zs.take k) ∧ (List.range k).all (okAt zs) = true) (fun _ i => zs.length - (intOf i).toNat)
    case atStart => exact ⟨0, 0, by omega, rfl, rfl, by simpa using bits_zero, by simp⟩
    case round =>
      obtain ⟨k, S, hk, rfl, rfl, hbits, hall⟩ := hrel
      have HA := Lib.hid hall
      have HBI := Lib.hid hbits
      have hS : S < 512 := hbits.1
      clear hall hbits
      by_cases hlt : k < zs.length
      · obtain ⟨b, o, rfl, hb, hc⟩ := hr.open (by simp; omega)
        have hcell := ints_at hc hlt
        clear hc
        have hlp : 1 ≤ zs.length := by omega
        by_cases hin : 0 ≤ zs[k] ∧ zs[k] < zs.length
        · obtain ⟨y, hy⟩ : ∃ y : Nat, zs[k] = (y : Int) := ⟨zs[k].toNat, by omega⟩
          have hinr : inR zs[k] 0 ((zs.length : Int) - 1) = true := by simp [inR]; omega
          have HI := Lib.hid hinr
          have HY := Lib.hid hy
          have hy9 : y < 9 := by omega
          have hyl : y < zs.length := by omega
          have hp := pow2_le hy9
          have hpow := fun W => power_any 2 y W (by omega) (by omega) (by omega)
          obtain ⟨P, hP⟩ : ∃ P, 2 ^ y = P := ⟨_, rfl⟩
          have hbit := HBI.out.2 y hy9
          rw [hP] at hpow hp hbit
          have HP := Lib.hid hP
          have HPW := Lib.hid hpow
          have HBT := Lib.hid hbit
          rw [hy] at hcell hinr
          have HIN := Lib.hid hinr
          have hp0 : ((P : Int) == 0) = false := beq_eq_false_iff_ne.2 (by omega)
          have hq : (S : Int).tdiv (P : Int) = ((S / P : Nat) : Int) := rfl
          clear hin hy hP hpow hbit hinr
          obtain ⟨hp1, hp2⟩ := hp
          obtain ⟨q, hqq⟩ : ∃ q, S / P = q := ⟨_, rfl⟩
          rw [hqq] at hq
          have hq5 : q < 512 := by rw [← hqq]; exact Nat.lt_of_le_of_lt (Nat.div_le_self _ _) hS
          have HQ := Lib.hid hqq
          clear hqq
          by_cases hmem : (y : Int) ∈ zs.take k
          · have hq1 : q % 2 = 1 := by rw [← HQ.out]; exact HBT.out.2 hmem
            have hq1' : (((q : Int) % 2) == 1) = true := beq_iff_eq.2 (by omega)
            have hno : rowB m zs = false := rowB_no hlt (okAt_twice hlt (by rw [HY.out]; exact hmem))
            have HNO := Lib.hid hno
            clear hq1 hno hmem
            go_wp2_with (first | (go_at_call 47; refine (inRange_any _ _ _ _).mono ?_; rintro e w' ⟨rfl, rfl⟩; rw [HIN.out]) | (go_at_call 60; refine (HPW.out _).mono ?_; rintro e w' ⟨rfl, rfl⟩))
            go_ret
            exact ⟨ret_bool HNO.out.symm, rfl⟩
          · have hq1 : ¬ q % 2 = 1 := by rw [← HQ.out]; exact fun h => hmem (HBT.out.1 h)
            have hq1' : (((q : Int) % 2) == 1) = false := beq_eq_false_iff_ne.2 (by omega)
            have hok : okAt zs k = true := okAt_yes hlt (by have := HY.out; omega) (by rw [HY.out]; exact hmem)
            have HOK := Lib.hid hok
            have HMEM := Lib.hid hmem
            clear hq1 hok hmem
            go_wp2_with (first | (go_at_call 47; refine (inRange_any _ _ _ _).mono ?_; rintro e w' ⟨rfl, rfl⟩; rw [HIN.out]) | (go_at_call 60; refine (HPW.out _).mono ?_; rintro e w' ⟨rfl, rfl⟩))
            clear hq hp0 hq1'
            go_round
            case rel =>
              refine ⟨k + 1, S + P, by omega, by go_num, by go_num, ?_, by rw [all_range_succ, HA.out, HOK.out]; rfl⟩
              rw [List.take_succ_eq_append_getElem hlt, HY.out, ← HP.out]
              exact bits_snoc HBI.out hy9 HMEM.out
            case measure => simp [intOf]; omega
        · have hinr : inR zs[k] 0 ((zs.length : Int) - 1) = false := by simp [inR]; omega
          have hno : rowB m zs = false := rowB_no hlt (okAt_out hlt hin)
          have HNO := Lib.hid hno
          have HIN := Lib.hid hinr
          clear hin hinr hno
          go_wp2_with (first | (go_at_call 47; refine (inRange_any _ _ _ _).mono ?_; rintro e w' ⟨rfl, rfl⟩; rw [HIN.out]))
          go_ret
          exact ⟨ret_bool HNO.out.symm, rfl⟩
      · have hk' : k = zs.length := by omega
        subst hk'
        go_wp2
        go_ret
        exact ⟨ret_bool (rowB_yes hlm HA.out).symm, rfl⟩
  · have hno := rowB_long hlm
    have HNO := Lib.hid hno
    have hgt : (m : Int) < zs.length := by omega
    clear hno hlm
    go_enter Try.func55, Try.ntmps55
    go_wp2
    go_ret
    exact ⟨ret_bool HNO.out.symm, rfl⟩
end Go.Proofs.Ytdgdlmpmoafkgaa
