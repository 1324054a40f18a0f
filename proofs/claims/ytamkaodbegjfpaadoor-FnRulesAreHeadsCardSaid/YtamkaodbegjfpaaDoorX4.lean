/- Words and rules by spec. No condition. -/
import Derived.Test.YtamkaodbegjfpaaDoorX0
import Derived.Test.YtamkaodbegjfpaaDoorX1
import Derived.Test.YtamkaodbegjfpaaDoorA1
import Derived.Laws.Strings
namespace Go.Proofs.YtamkaodbegjfpaaDoor
open Go.RowKit

set_option maxRecDepth 100000 in
theorem begins_any (s h : ByteArray) (w : World) :
    Calls Tryd.prog 17 #[.string s, .string h] w fun e w' => e = .returned (.bool (bg s h)) ∧ ∃ n, w' = w.drewN n := by
  by_cases hle : h.size ≤ s.size
  · have hb : bg s h = ((s.extract 0 h.size).toList == h.toList) := by simp [bg, hle]
    rw [hb]
    have hleI : (h.size : Int) ≤ s.size := by omega
    go_enter Tryd.func17, Tryd.ntmps17
    go_wp2
    go_ret
    exact ⟨rfl, 0, rfl⟩
  · have hb : bg s h = false := by simp [bg, hle]
    rw [hb]
    have hleI : (s.size : Int) < h.size := by omega
    go_enter Tryd.func17, Tryd.ntmps17
    go_wp2
    go_ret
    exact ⟨rfl, 0, rfl⟩

theorem byteU_get (s : ByteArray) (k : Nat) (h : k < s.size) : s.data.toList[k]? = some (s[k]'h) := by
  have : k < s.data.toList.length := by rw [Array.length_toList]; exact h
  rw [List.getElem?_eq_getElem this]
  rfl

set_option maxRecDepth 100000 in
theorem validWord_any (s : ByteArray) (w : World) (hs : s.size ≤ 1048576) :
    Calls Tryd.prog 29 #[.string s, .int .i64 4] w fun e w' => e = .returned (.bool (wordB s)) ∧ w' = w := by
  go_enter Tryd.func29, Tryd.ntmps29
  go_wp2
  go_loop [5] (fun i => ∃ k : Nat, k ≤ s.size ∧ i = .int .i64 k ∧ (s.data.toList.take k).all isAB = true) (fun i => s.size - (intOf i).toNat)
  case atStart => exact ⟨0, by omega, rfl, by simp⟩
  case round =>
    obtain ⟨k, hk, rfl, hdg⟩ := hrel
    have HD := Lib.hid hdg
    clear hdg
    by_cases hks : k < s.size
    · have HBY := Lib.hid (byteU_get s k hks)
      have HAB := Lib.hid (show isAB (s[k]'hks) = decide ((s[k]'hks).toNat = 97 ∨ (s[k]'hks).toNat = 98) from rfl)
      obtain ⟨x, hx⟩ : ∃ x, (s[k]'hks).toNat = x := ⟨_, rfl⟩
      have HX := Lib.hid hx
      by_cases h97 : x = 97
      · have hne : (((s[k]'hks).toNat : Int) != 97) = false := by rw [hx, h97]; rfl
        have HOK := Lib.hid (show isAB (s[k]'hks) = true by rw [HAB.out, hx]; simp [h97])
        clear hx h97
        go_wp2
        go_round
        case rel => exact ⟨k + 1, by omega, by go_num, by rw [List.take_add_one, HBY.out, List.all_append, HD.out]; simp [HOK.out]⟩
        case measure => simp [intOf]; omega
      · have hne : (((s[k]'hks).toNat : Int) != 97) = true := by rw [hx]; simp; omega
        by_cases h98 : x = 98
        · have hne2 : (((s[k]'hks).toNat : Int) != 98) = false := by rw [hx, h98]; rfl
          have HOK := Lib.hid (show isAB (s[k]'hks) = true by rw [HAB.out, hx]; simp [h98])
          clear hx h97 h98
          go_wp2
          go_round
          case rel => exact ⟨k + 1, by omega, by go_num, by rw [List.take_add_one, HBY.out, List.all_append, HD.out]; simp [HOK.out]⟩
          case measure => simp [intOf]; omega
        · have hne2 : (((s[k]'hks).toNat : Int) != 98) = true := by rw [hx]; simp; omega
          have HF := Lib.hid (show wordB s = false by
            have : onlyAB s.data.toList = false := by
              simp only [onlyAB, List.all_eq_false]
              exact ⟨s[k]'hks, List.mem_of_getElem? HBY.out, by rw [HAB.out, hx]; simp [h97, h98]⟩
            simp [wordB, this])
          clear hx h97 h98
          go_wp2
          go_ret
          exact ⟨ret_bool HF.out.symm, rfl⟩
    · have hk' : k = s.size := by omega
      subst hk'
      have hod : onlyAB s.data.toList = true := by
        have := HD.out
        rwa [List.take_of_length_le (by rw [Array.length_toList]; exact Nat.le_refl _)] at this
      have HT := Lib.hid (show wordB s = decide (s.size ≤ 4) by simp [wordB, hod])
      clear hod hks
      go_wp2
      go_ret
      exact ⟨ret_bool (by rw [HT.out, Bool.eq_iff_iff, decide_eq_true_eq, decide_eq_true_eq]; omega), rfl⟩

set_option maxRecDepth 100000 in
set_option maxHeartbeats 2000000 in
theorem specvRules_any (A : Option Addr) (c : Nat) (rs : List (ByteArray × Int)) (w : World) (hr : Own w 0 w.heap.size A (flat rs)) (hl : rs.length ≤ 1048576) (hs : ∀ r ∈ rs, r.1.size ≤ 1048576) :
    Calls Tryd.prog 16 #[.slice A rs.length c] w fun e w' => e = .returned (.bool (rulesB rs)) ∧ ∃ n, w' = w.drewN n := by
  have HS := Lib.hid hs
  clear hs
  go_enter Tryd.func16, Tryd.ntmps16
  go_wp2
  go_loopw [3] (fun i wr => ∃ n : Nat, n ≤ rs.length ∧ i = .int .i64 n ∧ (rs.take n).all ruleOk = true ∧ ∃ q, wr = w.drewN q) (fun i _ => rs.length - (intOf i).toNat)
  case atStart => exact ⟨0, by omega, rfl, by simp, 0, rfl⟩
  case round =>
    obtain ⟨n, hn, rfl, hall, hwr⟩ := hrel
    have HA := Lib.hid hall
    have HWR := Lib.hid hwr
    have hbw : Below w.heap.size w wr := by obtain ⟨q, rfl⟩ := hwr; exact below_drewN (Below.refl _ _) q
    have hrr := hr.below hbw
    obtain ⟨W, hW⟩ : ∃ W : World, W = wr := ⟨_, rfl⟩
    subst hW
    clear hall hwr hbw
    by_cases hlt : n < rs.length
    · obtain ⟨b, o, rfl, hb, hc⟩ := hrr.open (by rw [flat_length]; omega)
      obtain ⟨hc1, hc2⟩ := routes_at hc hlt
      have hsz := HS.out _ (List.getElem_mem hlt)
      obtain ⟨s, hse⟩ : ∃ s, rs[n].1 = s := ⟨_, rfl⟩
      obtain ⟨f, hfe⟩ : ∃ f, rs[n].2 = f := ⟨_, rfl⟩
      rw [hse] at hc1 hsz
      rw [hfe] at hc2
      have HOK := Lib.hid (show ruleOk rs[n] = (wordB s && inR f 0 9) by rw [ruleOk, hse, hfe])
      have HNO := Lib.hid (fun h => rulesB_no hlt h)
      have HTK := Lib.hid (show (rs.take (n + 1)).all ruleOk = ((rs.take n).all ruleOk && ruleOk rs[n]) by rw [List.take_succ_eq_append_getElem hlt, List.all_append]; simp)
      have hnI : (n : Int) < rs.length := by omega
      have hvw := fun X => validWord_any s X hsz
      have hir := fun X => inRange_any f 0 9 X
      obtain ⟨q1, hq1⟩ : ∃ q, wordB s = q := ⟨_, rfl⟩
      obtain ⟨q2, hq2⟩ : ∃ q, inR f 0 9 = q := ⟨_, rfl⟩
      rw [hq1] at hvw HOK
      rw [hq2] at hir HOK
      have HVW := Lib.hid hvw
      have HIR := Lib.hid hir
      clear hc hse hfe hrr hvw hir hq1 hq2
      go_wp2_with fail
      refine (HVW.out _).mono ?_
      rintro e w' ⟨rfl, rfl⟩
      cases q1 with
      | false =>
        have HF := Lib.hid (HNO.out HOK.out)
        go_wp2
        go_ret
        exact ⟨ret_bool HF.out.symm, HWR.out⟩
      | true =>
        go_wp2_with fail
        refine (HIR.out _).mono ?_
        rintro e w' ⟨rfl, rfl⟩
        cases q2 with
        | false =>
          have HF := Lib.hid (HNO.out HOK.out)
          go_wp2
          go_ret
          exact ⟨ret_bool HF.out.symm, HWR.out⟩
        | true =>
          go_wp2
          go_roundw
          case rel => exact ⟨n + 1, by omega, by go_num, by rw [HTK.out, HA.out, HOK.out]; rfl, HWR.out⟩
          case measure => simp [intOf]; omega
    · have hn' : n = rs.length := by omega
      subst hn'
      have HT := Lib.hid (show rulesB rs = decide (rs.length ≤ 7) from rulesB_yes (by have := HA.out; rwa [List.take_length] at this))
      clear hrr
      go_wp2
      go_ret
      exact ⟨ret_bool (by rw [HT.out, Bool.eq_iff_iff, decide_eq_true_eq, decide_eq_true_eq]; omega), HWR.out⟩
end Go.Proofs.YtamkaodbegjfpaaDoor
