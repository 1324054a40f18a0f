/- Texts that are nearly right. No condition. -/
import Derived.Test.YtlmcclbikljbhaaRs
import Derived.Deep.RegionWith
namespace Go.Proofs.Ytlmcclbikljbhaa
open Go.RowKit

set_option maxRecDepth 100000 in
set_option maxHeartbeats 4000000 in
theorem mutate_any (g p : Nat) (s : ByteArray) (w : World) (hrd : Rd w g p) (hp : p ≤ 100000) (hs : s.size ≤ 1000) :
    Calls Try.prog 70 #[.pointer (some ⟨g, 0, none⟩), .string s] w fun e w' => ∃ t : ByteArray, e = .returned (.string t) ∧ t.size ≤ s.size + 2 ∧ (∃ q, q ≤ p + 3 ∧ Rd w' g q) ∧ w.grownBy w' (some g) := by
  have hgl := hrd.lt
  go_enter Try.func70, Try.ntmps70
  go_wp2_with fail
  refine (pick_any g p _ _ hrd (by omega) (by omega)).mono ?_
  rintro e w1 ⟨k, rfl, hk, hrd1, hg1⟩
  obtain ⟨j, rfl⟩ := Int.eq_ofNat_of_zero_le hk.1
  have hj := hk.2 (by omega)
  have hjl : j ≤ s.size := by omega
  clear hk hj
  go_wp2_with fail
  refine (pick_any g _ _ _ hrd1 (by omega) (by omega)).mono ?_
  rintro e w2 ⟨q, rfl, hq, hrd2, hg2⟩
  have hq5 := hq.2 (by omega)
  have hq0 := hq.1
  have hg12 := grown_trans hg1 hg2
  clear hq hg1 hg2 hrd1
  have hcases : q = 0 ∨ q = 1 ∨ q = 2 ∨ q = 3 ∨ q = 4 := by omega
  rcases hcases with rfl | rfl | rfl | rfl | rfl
  · by_cases hlt : j < s.size
    · have hltI : (j : Int) < (s.size : Int) := by omega
      have hb0 : (0 : Int) ≤ (j : Int) := by omega
      have hb0' : (j : Int) ≤ (s.size : Int) := by omega
      have hb1 : (0 : Int) ≤ (j : Int) + 1 := by omega
      have hb2 : (j : Int) + 1 ≤ (s.size : Int) := by omega
      have hb3 : ((j : Int) + 1).toNat = j + 1 := by omega
      have hp2 : p + 1 + 1 ≤ 1000000 := by omega
      have e1 : IntKind.i64.wrap ((j : Int) + 1) = (j : Int) + 1 := IntWalk.i64_in _ (by omega)
      go_wp2
      go_region_with ((first | (go_at_call 68; (refine (of_litD g _ w2 hrd2 hp2 [⟨#[49]⟩, ⟨#[48]⟩, ⟨#[45]⟩, ⟨#[44]⟩, ⟨#[32]⟩, ⟨#[120]⟩] (by decide) (by decide) (by decide) 6 rfl _ rfl).mono ?_); rintro e w3 ⟨t, rfl, ht, hrd3, hg3⟩) | fail))
      all_goals
        clear e1
        go_simp
        go_wp2
        go_ret
        exact ⟨_, rfl, by simp only [ByteArray.size_append, ByteArray.size_extract]; omega, ⟨_, by omega, hrd3⟩, grown_trans hg12 hg3⟩
    · have hltI : ¬ (j : Int) < (s.size : Int) := by omega
      have hd : decide (j < s.size) = false := decide_eq_false hlt
      go_wp2
      go_ret
      exact ⟨s, rfl, by omega, ⟨_, by omega, hrd2⟩, hg12⟩
  · by_cases hlt : j < s.size
    · have hltI : (j : Int) < (s.size : Int) := by omega
      have hb0 : (0 : Int) ≤ (j : Int) := by omega
      have hb0' : (j : Int) ≤ (s.size : Int) := by omega
      have hb1 : (0 : Int) ≤ (j : Int) + 1 := by omega
      have hb2 : (j : Int) + 1 ≤ (s.size : Int) := by omega
      have hb3 : ((j : Int) + 1).toNat = j + 1 := by omega
      have hp2 : p + 1 + 1 ≤ 1000000 := by omega
      have e1 : IntKind.i64.wrap ((j : Int) + 1) = (j : Int) + 1 := IntWalk.i64_in _ (by omega)
      go_wp2
      go_region_with ((first | (go_at_call 68; (refine (of_litD g _ w2 hrd2 hp2 [⟨#[49]⟩, ⟨#[48]⟩, ⟨#[45]⟩, ⟨#[44]⟩, ⟨#[32]⟩, ⟨#[120]⟩] (by decide) (by decide) (by decide) 6 rfl _ rfl).mono ?_); rintro e w3 ⟨t, rfl, ht, hrd3, hg3⟩) | fail))
      all_goals
        clear e1
        go_simp
        go_wp2
        go_ret
        exact ⟨_, rfl, by simp only [ByteArray.size_append, ByteArray.size_extract]; omega, ⟨_, by omega, hrd3⟩, grown_trans hg12 hg3⟩
    · have hltI : ¬ (j : Int) < (s.size : Int) := by omega
      have hd : decide (j < s.size) = false := decide_eq_false hlt
      go_wp2
      go_ret
      exact ⟨s, rfl, by omega, ⟨_, by omega, hrd2⟩, hg12⟩
  · have hb0 : (0 : Int) ≤ (j : Int) := by omega
    have hb0' : (j : Int) ≤ (s.size : Int) := by omega
    go_wp2
    go_ret
    exact ⟨_, rfl, by simp only [ByteArray.size_extract]; omega, ⟨_, by omega, hrd2⟩, hg12⟩
  · have hp2 : p + 1 + 1 ≤ 1000000 := by omega
    go_wp2_with fail
    refine (of_lit g _ w2 hrd2 hp2 [⟨#[49]⟩, ⟨#[44, 50]⟩, ⟨#[32]⟩, ⟨#[120]⟩] (by decide) (by decide) (by decide) 4 rfl _ rfl).mono ?_
    rintro e w3 ⟨t, rfl, ht, hrd3, hg3⟩
    go_wp2
    go_ret
    exact ⟨_, rfl, by simp only [ByteArray.size_append]; omega, ⟨_, by omega, hrd3⟩, grown_trans hg12 hg3⟩
  · go_wp2
    go_ret
    exact ⟨s, rfl, by omega, ⟨_, by omega, hrd2⟩, hg12⟩
end Go.Proofs.Ytlmcclbikljbhaa
