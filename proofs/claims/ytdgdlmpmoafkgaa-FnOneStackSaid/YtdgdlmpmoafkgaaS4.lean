/- Rows: contracts of impl. No condition. -/
import Derived.Test.YtdgdlmpmoafkgaaS3
import Derived.Test.YtdgdlmpmoafkgaaShelf
namespace Go.Proofs.Ytdgdlmpmoafkgaa
open Go.RowKit

set_option maxRecDepth 100000 in
set_option maxHeartbeats 1000000 in
theorem impValidRow_any (A : Option Addr) (c : Nat) (zs : List Int) (w : World) (hr : Ints w w.heap.size A zs) (hlc : zs.length ≤ c) :
    Calls Try.prog 18 #[.slice A zs.length c] w fun e w' => e = .returned (.bool (rowB 9 zs)) ∧ w = w' := by
  by_cases hlm : zs.length ≤ 9
  · have hdm : decide ((9 : Int) < zs.length) = false := decide_eq_false (by omega)
    go_enter Try.func18, Try.ntmps18
    go_wp2
    clear hdm
    go_loop [10] (fun i => ∃ k : Nat, k ≤ zs.length ∧ i = .int .i64 k ∧ (List.range k).all (okAt zs) = true) (fun i => zs.length - (intOf i).toNat)
    case atStart => exact ⟨0, by omega, rfl, by simp⟩
    case round =>
      obtain ⟨k, hk, rfl, hall⟩ := hrel
      have HA := Lib.hid hall
      clear hall
      by_cases hlt : k < zs.length
      · obtain ⟨b, o, rfl, hb, hc⟩ := hr.open (by simp; omega)
        have hcell := ints_at hc hlt
        have hcon := Try.slices_Contains_int b o k c zs zs[k] w (by omega) (by omega) (fun j hj => by rw [getD_get hj]; exact ints_at hc hj)
        clear hc hr
        by_cases hin : 0 ≤ zs[k] ∧ zs[k] < zs.length
        · by_cases hmem : zs[k] ∈ zs.take k
          · have hct : (zs.take k).contains zs[k] = true := by rw [List.contains_eq_mem]; exact decide_eq_true hmem
            rw [hct] at hcon
            have HC := Lib.hid hcon
            have HNO := Lib.hid (rowB_no (m := 9) hlt (okAt_twice hlt hmem))
            have hi1 := hin.1
            have hi2 := hin.2
            clear hcon hct hmem hin
            go_wp2_with (go_at_call 42; refine HC.out.mono ?_; rintro e w' ⟨rfl, rfl⟩)
            go_ret
            exact ⟨ret_bool HNO.out.symm, rfl⟩
          · have hct : (zs.take k).contains zs[k] = false := by rw [List.contains_eq_mem]; exact decide_eq_false hmem
            rw [hct] at hcon
            have HC := Lib.hid hcon
            have HOK := Lib.hid (okAt_yes hlt hin hmem)
            have hi1 := hin.1
            have hi2 := hin.2
            clear hcon hct hmem hin
            go_wp2_with (go_at_call 42; refine HC.out.mono ?_; rintro e w' ⟨rfl, rfl⟩)
            go_round
            case rel => exact ⟨k + 1, by omega, by go_num, by rw [all_range_succ, HA.out, HOK.out]; rfl⟩
            case measure => simp [intOf]; omega
        · have HNO := Lib.hid (rowB_no (m := 9) hlt (okAt_out hlt hin))
          clear hcon
          by_cases h0 : 0 ≤ zs[k]
          · have h1 : (zs.length : Int) ≤ zs[k] := by omega
            clear hin
            go_wp2
            go_ret
            exact ⟨ret_bool HNO.out.symm, rfl⟩
          · have h1 : zs[k] < 0 := by omega
            clear hin h0
            go_wp2
            go_ret
            exact ⟨ret_bool HNO.out.symm, rfl⟩
      · have hk' : k = zs.length := by omega
        subst hk'
        go_wp2
        go_ret
        exact ⟨ret_bool (rowB_yes hlm HA.out).symm, rfl⟩
  · have HNO := Lib.hid (rowB_long hlm)
    have hgt : (9 : Int) < zs.length := by omega
    clear hlm
    go_enter Try.func18, Try.ntmps18
    go_wp2
    go_ret
    exact ⟨ret_bool HNO.out.symm, rfl⟩
end Go.Proofs.Ytdgdlmpmoafkgaa
