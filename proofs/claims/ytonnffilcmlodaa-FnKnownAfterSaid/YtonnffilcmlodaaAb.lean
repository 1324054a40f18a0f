/- impl.areBelow. No condition. -/
import Derived.Test.YtonnffilcmlodaaS0
import Derived.Test.YtonnffilcmlodaaH1
namespace Go.Proofs.Ytonnffilcmlodaa
open Go.RowKit

def belB (k : Int) (zs : List Int) : Bool := zs.all (fun z => inR z 0 (k - 1))
theorem belB_no {k : Int} {zs : List Int} {i : Nat} (hi : i < zs.length) (h : inR zs[i] 0 (k - 1) = false) : belB k zs = false := all_no hi h

set_option maxRecDepth 100000 in
set_option maxHeartbeats 2000000 in
theorem areBelow_any (A : Option Addr) (c : Nat) (zs : List Int) (m : Int) (w : World) (hr : Ints w w.heap.size A zs) (hl : zs.length ≤ 9000000000000000000) :
    Calls Try.prog 44 #[.slice A zs.length c, .int .i64 m] w fun e w' => e = .returned (.bool (belB m zs)) ∧ w = w' := by
  go_enter Try.func44, Try.ntmps44
  go_wp2
  go_loop [9] (fun i => ∃ k : Nat, k ≤ zs.length ∧ i = .int .i64 k ∧ Hid ((zs.take k).all (fun z => inR z 0 (m - 1)) = true)) (fun i => zs.length - (intOf i).toNat)
  case atStart => exact ⟨0, by omega, rfl, Lib.hid (by simp)⟩
  case round =>
    obtain ⟨k, hk, rfl, HA⟩ := hrel
    by_cases hlt : k < zs.length
    · obtain ⟨b, o, rfl, hb, hc⟩ := hr.open (by simp; omega)
      have hcell := ints_at hc hlt
      have HN := Lib.hid (belB_no (k := m) hlt)
      have HT := Lib.hid (take_all (p := fun z => inR z 0 (m - 1)) hlt)
      have hkI : (k : Int) < zs.length := by omega
      obtain ⟨z, hz⟩ : ∃ z, zs[k] = z := ⟨_, rfl⟩
      rw [hz] at hcell HN HT
      clear hc hz
      by_cases h0 : z < 0
      · have t1 : decide (z < 0) = true := decide_eq_true h0
        have HF := Lib.hid (HN.out (by simp [inR]; omega))
        clear h0
        go_wp2
        go_ret
        exact ⟨ret_bool HF.out.symm, rfl⟩
      · have t1 : decide (z < 0) = false := decide_eq_false h0
        by_cases h1 : m ≤ z
        · have t2 : decide (m ≤ z) = true := decide_eq_true h1
          have HF := Lib.hid (HN.out (by simp [inR]; omega))
          clear h0 h1
          go_wp2
          go_ret
          exact ⟨ret_bool HF.out.symm, rfl⟩
        · have t2 : decide (m ≤ z) = false := decide_eq_false h1
          have HAK := Lib.hid (show (zs.take (k + 1)).all (fun z => inR z 0 (m - 1)) = true by rw [HT.out, HA.out, inR_iff.2 (by omega)]; rfl)
          clear h0 h1
          go_wp2
          go_round
          case rel => exact ⟨k + 1, by omega, by go_num, HAK⟩
          case measure => simp [intOf]; omega
    · have hk' : k = zs.length := by omega
      subst hk'
      have HF := Lib.hid (show belB m zs = true by have := HA.out; rw [List.take_length] at this; exact this)
      go_wp2
      go_ret
      exact ⟨ret_bool HF.out.symm, rfl⟩
end Go.Proofs.Ytonnffilcmlodaa
