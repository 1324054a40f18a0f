/- Groups: impl.areBelow, ValidGroups on both sides. No condition. -/
import Derived.Test.YtldbefmiabgkhabT1
import Derived.Test.YtldbefmiabgkhabT2
import Derived.Test.YtldbefmiabgkhabEx
import Derived.Test.YtldbefmiabgkhabG6
namespace Go.Proofs.Ytldbefmiabgkhab
open Go.RowKit

def belB (k : Int) (zs : List Int) : Bool := zs.all (fun z => inR z 0 (k - 1))
theorem belB_no {k : Int} {zs : List Int} {i : Nat} (hi : i < zs.length) (h : inR zs[i] 0 (k - 1) = false) : belB k zs = false := all_no hi h
theorem okG_bel (r : List Int) : okG r = (belB 9 r && decide (r.length ≤ 4)) := rfl

set_option maxRecDepth 100000 in
set_option maxHeartbeats 2000000 in
theorem areBelow_any (A : Option Addr) (c : Nat) (zs : List Int) (m : Int) (w : World) (hr : Ints w w.heap.size A zs) (hl : zs.length ≤ 1000000000) :
    Calls Try.prog 39 #[.slice A zs.length c, .int .i64 m] w fun e w' => e = .returned (.bool (belB m zs)) ∧ w = w' := by
  go_enter Try.func39, Try.ntmps39
  go_wp2
  go_loop [9] (fun i => ∃ k : Nat, k ≤ zs.length ∧ i = .int .i64 k ∧ Hid ((zs.take k).all (fun z => inR z 0 (m - 1)) = true)) (fun i => zs.length - (intOf i).toNat)
  case atStart => exact ⟨0, by omega, rfl, Lib.hid (by simp)⟩
  case round =>
    obtain ⟨k, hk, rfl, HA⟩ := hrel
    by_cases hlt : k < zs.length
    · obtain ⟨b, o, rfl, hb, hc⟩ := hr.open (by simp; omega)
      have hcell := ints_at hc hlt
      have HN := Lib.hid (belB_no (k := m) hlt)
      have HT := Lib.hid (take_all (p := fun z => inR z 0 (m - 1)) hlt)
      have hkI : (k : Int) < zs.length := by omega
      obtain ⟨z, hz⟩ : ∃ z, zs[k] = z := ⟨_, rfl⟩
      rw [hz] at hcell HN HT
      clear hc hz
      by_cases h0 : z < 0
      · have t1 : decide (z < 0) = true := decide_eq_true h0
        have HF := Lib.hid (HN.out (by simp [inR]; omega))
        clear h0
        go_wp2
        go_ret
        exact ⟨ret_bool HF.out.symm, rfl⟩
      · have t1 : decide (z < 0) = false := decide_eq_false h0
        by_cases h1 : m ≤ z
        · have t2 : decide (m ≤ z) = true := decide_eq_true h1
          have HF := Lib.hid (HN.out (by simp [inR]; omega))
          clear h0 h1
          go_wp2
          go_ret
          exact ⟨ret_bool HF.out.symm, rfl⟩
        · have t2 : decide (m ≤ z) = false := decide_eq_false h1
          have HAK := Lib.hid (show (zs.take (k + 1)).all (fun z => inR z 0 (m - 1)) = true by rw [HT.out, HA.out, inR_iff.2 (by omega)]; rfl)
          clear h0 h1
          go_wp2
          go_round
          case rel => exact ⟨k + 1, by omega, by go_num, HAK⟩
          case measure => simp [intOf]; omega
    · have hk' : k = zs.length := by omega
      subst hk'
      have HF := Lib.hid (show belB m zs = true by have := HA.out; rw [List.take_length] at this; exact this)
      go_wp2
      go_ret
      exact ⟨ret_bool HF.out.symm, rfl⟩

set_option maxRecDepth 100000 in
set_option maxHeartbeats 2000000 in
theorem validGroups_any (A : Option Addr) (c : Nat) (rs : List (List Int)) (w : World) (hr : Grid w 0 w.heap.size A rs) (hl : rs.length ≤ 1000000000) (hs : ∀ r ∈ rs, r.length ≤ 1000000000) :
    Calls Try.prog 27 #[.slice A rs.length c] w fun e w' => e = .returned (.bool (groupsB rs)) ∧ w = w' := by
  have HS := Lib.hid hs
  clear hs
  go_enter Try.func27, Try.ntmps27
  go_wp2
  go_loop [3] (fun i => ∃ k : Nat, k ≤ rs.length ∧ i = .int .i64 k ∧ Hid ((rs.take k).all okG = true)) (fun i => rs.length - (intOf i).toNat)
  case atStart => exact ⟨0, by omega, rfl, Lib.hid (by simp)⟩
  case round =>
    obtain ⟨i, hi, rfl, HA⟩ := hrel
    by_cases hlt : i < rs.length
    · obtain ⟨b, o, R, c1, rfl, hb, hcell, hc1, ho⟩ := hr.open hlt
      have HN := Lib.hid (groups_no hlt)
      have HT := Lib.hid (all_take (p := okG) hlt)
      have hsz := HS.out _ (List.getElem_mem hlt)
      obtain ⟨r, hre⟩ : ∃ r, rs[i] = r := ⟨_, rfl⟩
      rw [hre] at hcell ho hsz HN HT
      have hiI : (i : Int) < rs.length := by omega
      clear hre hc1
      go_wp2_with fail
      go_loop [4] (fun v => ∃ k : Nat, k ≤ r.length ∧ v = .int .i64 k ∧ Hid ((r.take k).all (fun z => inR z 0 8) = true)) (fun v => r.length - (intOf v).toNat)
      case atStart => exact ⟨0, by omega, rfl, Lib.hid (by simp)⟩
      case round =>
        obtain ⟨k, hk, rfl, HAK⟩ := hrel
        by_cases hlk : k < r.length
        · obtain ⟨b', o', rfl, hb', hc'⟩ := ho.open (by simp; omega)
          have q0 := ints_at hc' hlk
          have HTK := Lib.hid (take_all (p := fun z => inR z 0 8) hlk)
          have HNK := Lib.hid (okG_no hlk)
          have hkI : (k : Int) < r.length := by omega
          obtain ⟨x, hx⟩ : ∃ x, r[k] = x := ⟨_, rfl⟩
          rw [hx] at q0 HTK HNK
          clear hc' hx
          by_cases i0 : inR x 0 8 = true
          · have HI := Lib.hid (inRange_is i0)
            have HKK := Lib.hid (show (r.take (k + 1)).all (fun z => inR z 0 8) = true by rw [HTK.out, HAK.out, i0]; rfl)
            clear i0
            go_wp2_with (go_at_call 28; (with_reducible refine (HI.out _).mono ?_); rintro e w' ⟨rfl, rfl⟩)
            go_round
            case rel => exact ⟨k + 1, by omega, by go_num, HKK⟩
            case measure => simp [intOf]; omega
          · have i0' : inR x 0 8 = false := by simpa using i0
            have HI := Lib.hid (inRange_is i0')
            have HF := Lib.hid (HN.out (HNK.out i0'))
            clear i0 i0'
            go_wp2_with (go_at_call 28; (with_reducible refine (HI.out _).mono ?_); rintro e w' ⟨rfl, rfl⟩)
            go_ret
            exact ⟨ret_bool HF.out.symm, rfl⟩
        · have hkk : k = r.length := by omega
          subst hkk
          have HRA := Lib.hid (show r.all (fun z => inR z 0 8) = true by have := HAK.out; rwa [List.take_length] at this)
          by_cases h4 : r.length ≤ 4
          · have t4 : decide ((4 : Int) < (r.length : Int)) = false := decide_eq_false (by omega)
            have HAI := Lib.hid (show (rs.take (i + 1)).all okG = true by rw [HT.out, HA.out, okG, HRA.out, decide_eq_true h4]; rfl)
            clear h4
            go_wp2_with fail
            go_round
            case rel => exact ⟨i + 1, by omega, by go_num, HAI⟩
            case measure => simp [intOf]; omega
          · have t4 : decide ((4 : Int) < (r.length : Int)) = true := decide_eq_true (by omega)
            have HF := Lib.hid (HN.out (okG_len h4))
            clear h4
            go_wp2
            go_ret
            exact ⟨ret_bool HF.out.symm, rfl⟩
    · have hk' : i = rs.length := by omega
      subst hk'
      have HRA := Lib.hid (show rs.all okG = true by have := HA.out; rwa [List.take_length] at this)
      by_cases h5 : rs.length ≤ 5
      · have HF := Lib.hid (show groupsB rs = true by rw [groupsB, HRA.out, decide_eq_true h5]; rfl)
        have t5 : decide ((rs.length : Int) ≤ 5) = true := decide_eq_true (by omega)
        clear h5
        go_wp2
        go_ret
        exact ⟨ret_bool HF.out.symm, rfl⟩
      · have HF := Lib.hid (groups_long h5)
        have t5 : decide ((rs.length : Int) ≤ 5) = false := decide_eq_false (by omega)
        clear h5
        go_wp2
        go_ret
        exact ⟨ret_bool HF.out.symm, rfl⟩

set_option maxRecDepth 100000 in
set_option maxHeartbeats 2000000 in
theorem impValidGroups_any (A : Option Addr) (c : Nat) (rs : List (List Int)) (w : World) (hr : Grid w 0 w.heap.size A rs) (hs : ∀ r ∈ rs, r.length ≤ 1000000000) :
    Calls Try.prog 21 #[.slice A rs.length c] w fun e w' => e = .returned (.bool (groupsB rs)) ∧ w = w' := by
  have HS := Lib.hid hs
  clear hs
  by_cases h5 : rs.length ≤ 5
  · have t5 : decide ((5 : Int) < (rs.length : Int)) = false := decide_eq_false (by omega)
    have H5 := Lib.hid h5
    go_enter Try.func21, Try.ntmps21
    go_wp2
    clear t5
    go_loop [10] (fun i => ∃ k : Nat, k ≤ rs.length ∧ i = .int .i64 k ∧ Hid ((rs.take k).all okG = true)) (fun i => rs.length - (intOf i).toNat)
    case atStart => exact ⟨0, by omega, rfl, Lib.hid (by simp)⟩
    case round =>
      obtain ⟨i, hi, rfl, HA⟩ := hrel
      by_cases hlt : i < rs.length
      · obtain ⟨b, o, R, c1, rfl, hb, hcell, hc1, ho⟩ := hr.open hlt
        have HN := Lib.hid (groups_no hlt)
        have HT := Lib.hid (all_take (p := okG) hlt)
        have hsz := HS.out _ (List.getElem_mem hlt)
        obtain ⟨r, hre⟩ : ∃ r, rs[i] = r := ⟨_, rfl⟩
        rw [hre] at hcell ho hsz HN HT
        have hiI : (i : Int) < rs.length := by omega
        have HC := Lib.hid (areBelow_any R c1 r 9 w ho.row hsz)
        have HOG := Lib.hid (okG_bel r)
        clear hre hc1 ho
        by_cases h4 : r.length ≤ 4
        · have t4 : decide ((4 : Int) < (r.length : Int)) = false := decide_eq_false (by omega)
          by_cases hb9 : belB 9 r = true
          · rw [hb9] at HC HOG
            have HAI := Lib.hid (show (rs.take (i + 1)).all okG = true by rw [HT.out, HA.out, HOG.out, decide_eq_true h4]; rfl)
            clear h4 hb9
            go_wp2_with (go_at_call 39; (with_reducible refine HC.out.mono ?_); rintro e w' ⟨rfl, rfl⟩)
            go_round
            case rel => exact ⟨i + 1, by omega, by go_num, HAI⟩
            case measure => simp [intOf]; omega
          · have hb9' : belB 9 r = false := by simpa using hb9
            rw [hb9'] at HC HOG
            have HF := Lib.hid (HN.out (by rw [HOG.out]; rfl))
            clear h4 hb9 hb9'
            go_wp2_with (go_at_call 39; (with_reducible refine HC.out.mono ?_); rintro e w' ⟨rfl, rfl⟩)
            go_ret
            exact ⟨ret_bool HF.out.symm, rfl⟩
        · have t4 : decide ((4 : Int) < (r.length : Int)) = true := decide_eq_true (by omega)
          have HF := Lib.hid (HN.out (okG_len h4))
          clear h4
          go_wp2
          go_ret
          exact ⟨ret_bool HF.out.symm, rfl⟩
      · have hk' : i = rs.length := by omega
        subst hk'
        have HF := Lib.hid (show groupsB rs = true by
          have h1 : rs.all okG = true := by have := HA.out; rwa [List.take_length] at this
          rw [groupsB, h1, decide_eq_true H5.out]; rfl)
        go_wp2
        go_ret
        exact ⟨ret_bool HF.out.symm, rfl⟩
  · have HF := Lib.hid (groups_long h5)
    have t5 : decide ((5 : Int) < (rs.length : Int)) = true := decide_eq_true (by omega)
    clear h5
    go_enter Try.func21, Try.ntmps21
    go_wp2
    go_ret
    exact ⟨ret_bool HF.out.symm, rfl⟩
end Go.Proofs.Ytldbefmiabgkhab
