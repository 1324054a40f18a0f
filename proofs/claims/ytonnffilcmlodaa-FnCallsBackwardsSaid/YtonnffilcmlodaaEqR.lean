/- laws.equalRows. No condition. -/
import Derived.Test.YtonnffilcmlodaaG1
import Derived.Test.YtonnffilcmlodaaEq
namespace Go.Proofs.Ytonnffilcmlodaa
open Go.RowKit

set_option maxRecDepth 100000 in
set_option maxHeartbeats 1000000 in
theorem equalRows_any (A B : Option Addr) (c d : Nat) (xs ys : List (List Int)) (w : World) (hx : Grid w 0 w.heap.size A xs) (hy : Grid w 0 w.heap.size B ys) (hl : xs.length ≤ 1000000000) (hrl : ∀ (i : Nat) (hi : i < xs.length), xs[i].length ≤ 1000000000) :
    Calls Try.prog 26 #[.slice A xs.length c, .slice B ys.length d] w fun e w' => e = .returned (.bool (eqG xs ys)) ∧ ∃ n, w' = w.drewN n := by
  have HRL := Lib.hid hrl
  clear hrl
  by_cases hne : xs.length = ys.length
  · have HN := Lib.hid hne
    have hle : xs.length ≤ ys.length := by omega
    have ht : ((xs.length : Int) != (ys.length : Int)) = false := by simp; omega
    clear hne
    go_enter Try.func26, Try.ntmps26
    go_wp2
    go_loopw [5] (fun i wr => ∃ k : Nat, k ≤ xs.length ∧ i = .int .i64 k ∧ xs.take k = ys.take k ∧ ∃ n, wr = w.drewN n) (fun i _ => xs.length - (intOf i).toNat)
    case atStart => exact ⟨0, by omega, rfl, by simp, 0, rfl⟩
    case round =>
      obtain ⟨k, hk, rfl, hall, hwr⟩ := hrel
      have hbw : Below w.heap.size w wr := by obtain ⟨n, rfl⟩ := hwr; exact below_drewN (Below.refl _ _) n
      have hxr := hx.below hbw
      have hyr := hy.below hbw
      have HWR := Lib.hid hwr
      obtain ⟨W, hW⟩ : ∃ W : World, W = wr := ⟨_, rfl⟩
      subst hW
      have HA := Lib.hid hall; clear hall hwr hbw
      clear ht
      by_cases hlt : k < xs.length
      · obtain ⟨b, o, R, c1, rfl, hb, hcell, hc1, ho⟩ := hxr.open hlt
        obtain ⟨b', o', R', c2, rfl, hb', hcell', hc2, ho'⟩ := hyr.open (show k < ys.length by omega)
        have hlt2 : (k : Int) < ys.length := by omega
        have hs0 : w.heap.size ≤ W.heap.size := by obtain ⟨n, hn⟩ := HWR.out; rw [hn]; exact Nat.le_refl _
        have hq := fun m => equalInts_any R R' c1 c2 xs[k] (ys[k]'(by omega)) (W.drewN m) ((ho.below (below_drewN (Below.refl _ _) m)).more hs0) ((ho'.below (below_drewN (Below.refl _ _) m)).more hs0) (by have := HRL.out k hlt; omega)
        obtain ⟨q, hqe⟩ : ∃ q, eqI xs[k] (ys[k]'(by omega)) = q := ⟨_, rfl⟩
        rw [hqe] at hq
        have HQ := Lib.hid hq
        have HQE := Lib.hid hqe
        clear hq hqe ho ho'
        go_wp2
        go_quiet ((go_at_call 19; exact Calls.quiet_of (HQ.out _)))
        go_wp2
        · have h : (!q) = true := by assumption
          go_ret
          refine ⟨ret_bool (eqG_ne hlt (by omega) (fun e => ?_)).symm, ?_⟩
          · have h1 := HQE.out
            rw [e, eqI_refl'] at h1
            rw [← h1] at h; cases h
          · obtain ⟨n, hn⟩ := HWR.out; rw [hn]; exact ⟨_, World.drewN_drewN ..⟩
        · have h : (!q) = false := by assumption
          go_roundw
          case rel =>
            refine ⟨k + 1, by omega, by go_num, ?_, ?_⟩
            · have h1 := HQE.out
              have hqt : q = true := by simpa using h
              rw [hqt] at h1
              rw [List.take_succ_eq_append_getElem hlt, List.take_succ_eq_append_getElem (show k < ys.length by omega), HA.out, show xs[k] = ys[k] from by simpa [eqI] using h1]
            · obtain ⟨n, hn⟩ := HWR.out; rw [hn]; exact ⟨_, World.drewN_drewN ..⟩
          case measure => simp [intOf]; omega
      · have hk' : k = xs.length := by omega
        subst hk'
        go_wp2
        go_ret
        exact ⟨ret_bool (eqG_of HN.out HA.out).symm, HWR.out⟩
  · have ht : ((xs.length : Int) != (ys.length : Int)) = true := by simp; omega
    have HN := Lib.hid hne
    clear hne
    go_enter Try.func26, Try.ntmps26
    go_wp2
    go_ret
    refine ⟨ret_bool ?_, 0, rfl⟩
    have := HN.out
    symm
    simp only [eqG, decide_eq_false_iff_not]
    rintro rfl
    exact this rfl
end Go.Proofs.Ytonnffilcmlodaa
