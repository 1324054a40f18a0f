/- Fractions in the laws. No condition. -/
import Derived.Test.YtonnffilcmlodabVv
import Derived.Test.YtonnffilcmlodabVy
import Derived.Test.YtonnffilcmlodabBw
namespace Go.Proofs.Ytonnffilcmlodab
open Go.RowKit

set_option maxRecDepth 100000 in
set_option maxHeartbeats 2000000 in
theorem timesOf_any (p1 p2 q1 q2 : Nat) (w : World) (h1 : p1 * q1 ≤ 1000000000000) (h2 : p2 * q2 ≤ 1000000000000) (h3 : 0 < p2 * q2) :
    Calls Try.prog 12 #[frV (p1, p2), frV (q1, q2)] w fun e w' => e = .returned (frV (mulF (p1, p2) (q1, q2))) ∧ Below w.heap.size w w' := by
  have e1 : (p1 : Int) * (q1 : Int) = ((p1 * q1 : Nat) : Int) := (Int.natCast_mul _ _).symm
  have e2 : (p2 : Int) * (q2 : Int) = ((p2 * q2 : Nat) : Int) := (Int.natCast_mul _ _).symm
  have HM := Lib.hid (mulF_is (p1, p2) (q1, q2))
  obtain ⟨a, ha⟩ : ∃ a, p1 * q1 = a := ⟨_, rfl⟩
  obtain ⟨b, hb⟩ : ∃ b, p2 * q2 = b := ⟨_, rfl⟩
  dsimp only at HM
  rw [ha] at e1 h1 HM
  rw [hb] at e2 h2 h3 HM
  rw [HM.out]
  have HR := Lib.hid (fun X => fracOf_any a b X h3 h1 h2)
  obtain ⟨r, hr⟩ : ∃ r, red a b = r := ⟨_, rfl⟩
  rw [hr] at HR ⊢
  clear ha hb hr HM
  obtain ⟨x, y⟩ := r
  unfold frV at HR ⊢
  dsimp only at HR ⊢
  go_enter Try.func12, Try.ntmps12
  go_wp2_with fail
  refine (HR.out _).mono ?_
  rintro e w5 ⟨rfl, hb5⟩
  have hB : Below w.heap.size w w5 := (below3F w _ _ _).trans (hb5.mono (by rw [size3F]; omega))
  obtain ⟨z1, z2, k0, k1, f0, f1, _⟩ := (box3F w _ _ _ _).keep hb5 (by rw [size3F]; omega)
  have HB := Lib.hid hB
  clear hB hb5
  go_wp2
  have hcs := cellsF_set (x := .int .i64 (x : Int)) (y := .int .i64 (y : Int)) k0 k1
  have hbb := (HB.out.setCell (p := ⟨w.heap.size + 2, 0, none⟩) (by show w.heap.size ≤ w.heap.size + 2; omega) (.int .i64 (x : Int))).setCell (p := ⟨w.heap.size + 2, 1, none⟩) (by show w.heap.size ≤ w.heap.size + 2; omega) (.int .i64 (y : Int))
  refine bodyPost_ret (results_cellF rfl rfl (loadFc hcs.1 hcs.2)) rfl ?_
  exact ⟨rfl, hbb⟩

set_option maxRecDepth 100000 in
set_option maxHeartbeats 2000000 in
theorem plusOf_any (p1 p2 q1 q2 : Nat) (w : World) (h1 : p1 * q2 ≤ 100000000000) (h2 : q1 * p2 ≤ 100000000000) (h3 : p2 * q2 ≤ 100000000000) (h4 : 0 < p2 * q2) :
    Calls Try.prog 18 #[frV (p1, p2), frV (q1, q2)] w fun e w' => e = .returned (frV (addF (p1, p2) (q1, q2))) ∧ Below w.heap.size w w' := by
  have e1 : (p1 : Int) * (q2 : Int) = ((p1 * q2 : Nat) : Int) := (Int.natCast_mul _ _).symm
  have e2 : (q1 : Int) * (p2 : Int) = ((q1 * p2 : Nat) : Int) := (Int.natCast_mul _ _).symm
  have e3 : (p2 : Int) * (q2 : Int) = ((p2 * q2 : Nat) : Int) := (Int.natCast_mul _ _).symm
  have HM := Lib.hid (show addF (p1, p2) (q1, q2) = red (p1 * q2 + q1 * p2) (p2 * q2) from rfl)
  obtain ⟨a, ha⟩ : ∃ a, p1 * q2 = a := ⟨_, rfl⟩
  obtain ⟨a', ha'⟩ : ∃ a, q1 * p2 = a := ⟨_, rfl⟩
  obtain ⟨b, hb⟩ : ∃ b, p2 * q2 = b := ⟨_, rfl⟩
  rw [ha, ha', hb] at HM
  rw [ha] at e1 h1
  rw [ha'] at e2 h2
  rw [hb] at e3 h3 h4
  rw [HM.out]
  have e4 : (a : Int) + (a' : Int) = ((a + a' : Nat) : Int) := (Int.natCast_add _ _).symm
  obtain ⟨s, hs⟩ : ∃ s, a + a' = s := ⟨_, rfl⟩
  have hs1 : s ≤ 1000000000000 := by omega
  rw [hs] at e4 ⊢
  have HR := Lib.hid (fun X => fracOf_any s b X h4 hs1 (by omega))
  obtain ⟨r, hr⟩ : ∃ r, red s b = r := ⟨_, rfl⟩
  rw [hr] at HR ⊢
  clear ha ha' hb hr HM hs
  obtain ⟨x, y⟩ := r
  unfold frV at HR ⊢
  dsimp only at HR ⊢
  go_enter Try.func18, Try.ntmps18
  go_wp2_with fail
  refine (HR.out _).mono ?_
  rintro e w5 ⟨rfl, hb5⟩
  have hB : Below w.heap.size w w5 := (below3F w _ _ _).trans (hb5.mono (by rw [size3F]; omega))
  obtain ⟨z1, z2, k0, k1, f0, f1, _⟩ := (box3F w _ _ _ _).keep hb5 (by rw [size3F]; omega)
  have HB := Lib.hid hB
  clear hB hb5
  go_wp2
  have hcs := cellsF_set (x := .int .i64 (x : Int)) (y := .int .i64 (y : Int)) k0 k1
  have hbb := (HB.out.setCell (p := ⟨w.heap.size + 2, 0, none⟩) (by show w.heap.size ≤ w.heap.size + 2; omega) (.int .i64 (x : Int))).setCell (p := ⟨w.heap.size + 2, 1, none⟩) (by show w.heap.size ≤ w.heap.size + 2; omega) (.int .i64 (y : Int))
  refine bodyPost_ret (results_cellF rfl rfl (loadFc hcs.1 hcs.2)) rfl ?_
  exact ⟨rfl, hbb⟩


set_option maxRecDepth 100000 in
set_option maxHeartbeats 1000000 in
theorem equalFracs_self (A B : Option Addr) (c d : Nat) (rs : List (Nat × Nat)) (w : World) (hr : Own w 0 w.heap.size A (flatQ rs)) (hs : Own w 0 w.heap.size B (flatQ rs)) (hl : rs.length ≤ 1048576) :
    Calls Try.prog 16 #[.slice A rs.length c, .slice B rs.length d] w fun e w' => e = .returned (.bool true) ∧ Below w.heap.size w w' := by
  have ht : ((rs.length : Int) != (rs.length : Int)) = false := by simp
  go_enter Try.func16, Try.ntmps16
  go_wp2
  clear ht
  go_loopw [5] (fun i wr => ∃ k : Nat, k ≤ rs.length ∧ i = .int .i64 k ∧ ∃ z, wr = w.drewN z) (fun i _ => rs.length - (intOf i).toNat)
  case atStart => exact ⟨0, by omega, rfl, 0, rfl⟩
  case round =>
    obtain ⟨k, hk, rfl, z, hz⟩ := hrel
    have HZ := Lib.hid hz
    have hbr : Below w.heap.size w wr := by rw [hz]; exact drewBelow _ _
    by_cases hlt : k < rs.length
    · obtain ⟨b, o, rfl, hb, hc⟩ := (hr.below hbr).open (by rw [flatQ_length]; omega)
      obtain ⟨b', o', rfl, hb', hc'⟩ := (hs.below hbr).open (by rw [flatQ_length]; omega)
      obtain ⟨h1, h2⟩ := fracs_at hc hlt
      obtain ⟨h3, h4⟩ := fracs_at hc' hlt
      obtain ⟨r, hre⟩ : ∃ r, rs[k] = r := ⟨_, rfl⟩
      rw [hre] at h1 h2 h3 h4
      obtain ⟨r1, r2⟩ := r
      dsimp only at h1 h2 h3 h4
      have e1 : (((r1 : Int)) == (r1 : Int)) = true := by simp
      have e2 : (((r2 : Int)) == (r2 : Int)) = true := by simp
      have hkI : (k : Int) < (rs.length : Int) := by omega
      have hk0 : (0 : Int) ≤ (k : Int) := by omega
      clear hc hc' hre hbr hz
      go_wp2
      go_quiet (fail)
      go_wp2
      go_roundw
      case rel => exact ⟨k + 1, by omega, by go_num, by rw [HZ.out]; exact ⟨_, World.drewN_drewN ..⟩⟩
      case measure => simp [intOf]; omega
    · have hk' : k = rs.length := by omega
      subst hk'
      go_wp2
      go_ret
      exact ⟨rfl, by first | exact hbr | exact drewBelow _ _⟩
end Go.Proofs.Ytonnffilcmlodab
