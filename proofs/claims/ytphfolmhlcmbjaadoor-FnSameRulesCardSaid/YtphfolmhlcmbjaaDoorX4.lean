/- Words and rules by spec. No condition. -/
import Derived.Test.YtphfolmhlcmbjaaDoorX0
import Derived.Test.YtphfolmhlcmbjaaDoorX1
import Derived.Test.YtphfolmhlcmbjaaDoorA1
import Derived.Laws.Strings
namespace Go.Proofs.YtphfolmhlcmbjaaDoor
open Go.RowKit

set_option maxRecDepth 100000 in
theorem begins_any (s h : ByteArray) (w : World) :
    Calls Tryd.prog 56 #[.string s, .string h] w fun e w' => e = .returned (.bool (bg s h)) ∧ ∃ n, w' = w.drewN n := by
  by_cases hle : h.size ≤ s.size
  · have hb : bg s h = ((s.extract 0 h.size).toList == h.toList) := by simp [bg, hle]
    rw [hb]
    have hleI : (h.size : Int) ≤ s.size := by omega
    go_enter Tryd.func56, Tryd.ntmps56
    go_wp2
    go_ret
    exact ⟨rfl, 0, rfl⟩
  · have hb : bg s h = false := by simp [bg, hle]
    rw [hb]
    have hleI : (s.size : Int) < h.size := by omega
    go_enter Tryd.func56, Tryd.ntmps56
    go_wp2
    go_ret
    exact ⟨rfl, 0, rfl⟩

theorem byteU_get (s : ByteArray) (k : Nat) (h : k < s.size) : s.data.toList[k]? = some (s[k]'h) := by
  have : k < s.data.toList.length := by rw [Array.length_toList]; exact h
  rw [List.getElem?_eq_getElem this]
  rfl

set_option maxRecDepth 100000 in
theorem validWord_any (s : ByteArray) (w : World) (hs : s.size ≤ 1048576) :
    Calls Tryd.prog 47 #[.string s, .int .i64 4] w fun e w' => e = .returned (.bool (wordB s)) ∧ w' = w := by
  go_enter Tryd.func47, Tryd.ntmps47
  go_wp2
  go_loop [5] (fun i => ∃ k : Nat, k ≤ s.size ∧ i = .int .i64 k ∧ (s.data.toList.take k).all isAB = true) (fun i => s.size - (intOf i).toNat)
  case atStart => exact ⟨0, by omega, rfl, by simp⟩
  case round =>
    obtain ⟨k, hk, rfl, hdg⟩ := hrel
    have HD := Lib.hid hdg
    clear hdg
    by_cases hks : k < s.size
    · have HBY := Lib.hid (byteU_get s k hks)
      have HAB := Lib.hid (show isAB (s[k]'hks) = decide ((s[k]'hks).toNat = 97 ∨ (s[k]'hks).toNat = 98) from rfl)
      obtain ⟨x, hx⟩ : ∃ x, (s[k]'hks).toNat = x := ⟨_, rfl⟩
      have HX := Lib.hid hx
      by_cases h97 : x = 97
      · have hne : (((s[k]'hks).toNat : Int) != 97) = false := by rw [hx, h97]; rfl
        have HOK := Lib.hid (show isAB (s[k]'hks) = true by rw [HAB.out, hx]; simp [h97])
        clear hx h97
        go_wp2
        go_round
        case rel => exact ⟨k + 1, by omega, by go_num, by rw [List.take_add_one, HBY.out, List.all_append, HD.out]; simp [HOK.out]⟩
        case measure => simp [intOf]; omega
      · have hne : (((s[k]'hks).toNat : Int) != 97) = true := by rw [hx]; simp; omega
        by_cases h98 : x = 98
        · have hne2 : (((s[k]'hks).toNat : Int) != 98) = false := by rw [hx, h98]; rfl
          have HOK := Lib.hid (show isAB (s[k]'hks) = true by rw [HAB.out, hx]; simp [h98])
          clear hx h97 h98
          go_wp2
          go_round
          case rel => exact ⟨k + 1, by omega, by go_num, by rw [List.take_add_one, HBY.out, List.all_append, HD.out]; simp [HOK.out]⟩
          case measure => simp [intOf]; omega
        · have hne2 : (((s[k]'hks).toNat : Int) != 98) = true := by rw [hx]; simp; omega
          have HF := Lib.hid (show wordB s = false by
            have : onlyAB s.data.toList = false := by
              simp only [onlyAB, List.all_eq_false]
              exact ⟨s[k]'hks, List.mem_of_getElem? HBY.out, by rw [HAB.out, hx]; simp [h97, h98]⟩
            simp [wordB, this])
          clear hx h97 h98
          go_wp2
          go_ret
          exact ⟨ret_bool HF.out.symm, rfl⟩
    · have hk' : k = s.size := by omega
      subst hk'
      have hod : onlyAB s.data.toList = true := by
        have := HD.out
        rwa [List.take_of_length_le (by rw [Array.length_toList]; exact Nat.le_refl _)] at this
      have HT := Lib.hid (show wordB s = decide (s.size ≤ 4) by simp [wordB, hod])
      clear hod hks
      go_wp2
      go_ret
      exact ⟨ret_bool (by rw [HT.out, Bool.eq_iff_iff, decide_eq_true_eq, decide_eq_true_eq]; omega), rfl⟩

set_option maxRecDepth 100000 in
set_option maxHeartbeats 2000000 in
theorem specvRules_any (A : Option Addr) (c : Nat) (rs : List (ByteArray × Int)) (w : World) (hr : Own w 0 w.heap.size A (flat rs)) (hl : rs.length ≤ 1048576) (hs : ∀ r ∈ rs, r.1.size ≤ 1048576) :
    Calls Tryd.prog 43 #[.slice A rs.length c] w fun e w' => e = .returned (.bool (rulesB rs)) ∧ ∃ n, w' = w.drewN n := by
  have HS := Lib.hid hs
  clear hs
  go_enter Tryd.func43, Tryd.ntmps43
  go_wp2
  go_loopw [3] (fun i wr => ∃ n : Nat, n ≤ rs.length ∧ i = .int .i64 n ∧ (rs.take n).all ruleOk = true ∧ ∃ q, wr = w.drewN q) (fun i _ => rs.length - (intOf i).toNat)
  case atStart => exact ⟨0, by omega, rfl, by simp, 0, rfl⟩
  case round =>
    obtain ⟨n, hn, rfl, hall, hwr⟩ := hrel
    have HA := Lib.hid hall
    have HWR := Lib.hid hwr
    have hbw : Below w.heap.size w wr := by obtain ⟨q, rfl⟩ := hwr; exact below_drewN (Below.refl _ _) q
    have hrr := hr.below hbw
    obtain ⟨W, hW⟩ : ∃ W : World, W = wr := ⟨_, rfl⟩
    subst hW
    clear hall hwr hbw
    by_cases hlt : n < rs.length
    · obtain ⟨b, o, rfl, hb, hc⟩ := hrr.open (by rw [flat_length]; omega)
      obtain ⟨hc1, hc2⟩ := routes_at hc hlt
      have hsz := HS.out _ (List.getElem_mem hlt)
      obtain ⟨s, hse⟩ : ∃ s, rs[n].1 = s := ⟨_, rfl⟩
      obtain ⟨f, hfe⟩ : ∃ f, rs[n].2 = f := ⟨_, rfl⟩
      rw [hse] at hc1 hsz
      rw [hfe] at hc2
      have HOK := Lib.hid (show ruleOk rs[n] = (wordB s && inR f 0 9) by rw [ruleOk, hse, hfe])
      have HNO := Lib.hid (fun h => rulesB_no hlt h)
      have HTK := Lib.hid (show (rs.take (n + 1)).all ruleOk = ((rs.take n).all ruleOk && ruleOk rs[n]) by rw [List.take_succ_eq_append_getElem hlt, List.all_append]; simp)
      have hnI : (n : Int) < rs.length := by omega
      have hvw := fun X => validWord_any s X hsz
      have hir := fun X => inRange_any f 0 9 X
      obtain ⟨q1, hq1⟩ : ∃ q, wordB s = q := ⟨_, rfl⟩
      obtain ⟨q2, hq2⟩ : ∃ q, inR f 0 9 = q := ⟨_, rfl⟩
      rw [hq1] at hvw HOK
      rw [hq2] at hir HOK
      have HVW := Lib.hid hvw
      have HIR := Lib.hid hir
      clear hc hse hfe hrr hvw hir hq1 hq2
      go_wp2_with fail
      refine (HVW.out _).mono ?_
      rintro e w' ⟨rfl, rfl⟩
      cases q1 with
      | false =>
        have HF := Lib.hid (HNO.out HOK.out)
        go_wp2
        go_ret
        exact ⟨ret_bool HF.out.symm, HWR.out⟩
      | true =>
        go_wp2_with fail
        refine (HIR.out _).mono ?_
        rintro e w' ⟨rfl, rfl⟩
        cases q2 with
        | false =>
          have HF := Lib.hid (HNO.out HOK.out)
          go_wp2
          go_ret
          exact ⟨ret_bool HF.out.symm, HWR.out⟩
        | true =>
          go_wp2
          go_roundw
          case rel => exact ⟨n + 1, by omega, by go_num, by rw [HTK.out, HA.out, HOK.out]; rfl, HWR.out⟩
          case measure => simp [intOf]; omega
    · have hn' : n = rs.length := by omega
      subst hn'
      have HT := Lib.hid (show rulesB rs = decide (rs.length ≤ 7) from rulesB_yes (by have := HA.out; rwa [List.take_length] at this))
      clear hrr
      go_wp2
      go_ret
      exact ⟨ret_bool (by rw [HT.out, Bool.eq_iff_iff, decide_eq_true_eq, decide_eq_true_eq]; omega), HWR.out⟩

set_option maxRecDepth 100000 in
theorem specValidRules_any (A : Option Addr) (c : Nat) (rs : List (ByteArray × Int)) (w : World) (hr : Own w 0 w.heap.size A (flat rs)) (hl : rs.length ≤ 1048576) (hs : ∀ r ∈ rs, r.1.size ≤ 1048576) :
    Calls Tryd.prog 15 #[.slice A rs.length c] w fun e w' => e = .returned (.bool (rulesB rs)) ∧ ∃ n, w' = w.drewN n := by
  have h := specvRules_any A c rs w hr hl hs
  obtain ⟨q, hq⟩ : ∃ q, rulesB rs = q := ⟨_, rfl⟩
  rw [hq] at h ⊢
  have H := Lib.hid h
  clear h hq
  go_enter Tryd.func15, Tryd.ntmps15
  go_wp2_with fail
  refine H.out.mono ?_
  rintro e w1 ⟨rfl, n, rfl⟩
  go_wp2_with fail
  go_ret
  exact ⟨rfl, n, rfl⟩

set_option maxRecDepth 100000 in
set_option maxHeartbeats 2000000 in
/-- The box of a mark: spec.box. -/
theorem specbox_any (A : Option Addr) (c : Nat) (rs : List (ByteArray × Int)) (m : ByteArray) (w : World) (hr : Own w 0 w.heap.size A (flat rs)) (hl : rs.length ≤ 1048576) (hs : ∀ r ∈ rs, r.1.size ≤ 1048576) :
    Calls Tryd.prog 48 #[.slice A rs.length c, .string m] w fun e w' => e = .returned (.int .i64 (boxV rs m)) ∧ ∃ n, w' = w.drewN n := by
  have HS := Lib.hid hs
  clear hs
  go_enter Tryd.func48, Tryd.ntmps48
  go_wp2
  go_loopw [5] (fun i wr => ∃ n : Nat, n ≤ rs.length ∧ i = .int .i64 n ∧ hit (rs.take n) m = false ∧ ∃ q, wr = w.drewN q) (fun i _ => rs.length - (intOf i).toNat)
  case atStart => exact ⟨0, by omega, rfl, rfl, 0, rfl⟩
  case round =>
    obtain ⟨n, hn, rfl, hall, hwr⟩ := hrel
    have HA := Lib.hid hall
    have HWR := Lib.hid hwr
    have hbw : Below w.heap.size w wr := by obtain ⟨q, rfl⟩ := hwr; exact below_drewN (Below.refl _ _) q
    have hrr := hr.below hbw
    obtain ⟨W, hW⟩ : ∃ W : World, W = wr := ⟨_, rfl⟩
    subst hW
    clear hall hwr
    by_cases hlt : n < rs.length
    · obtain ⟨b, o, rfl, hb, hc⟩ := hrr.open (by rw [flat_length]; omega)
      obtain ⟨hc1, hc2⟩ := routes_at hc hlt
      have hsz := HS.out _ (List.getElem_mem hlt)
      have HAT := Lib.hid (fun h => boxV_at hlt HA.out h)
      have HTK := Lib.hid (hit_take (m := m) hlt)
      obtain ⟨h, hse⟩ : ∃ s, rs[n].1 = s := ⟨_, rfl⟩
      obtain ⟨f, hfe⟩ : ∃ f, rs[n].2 = f := ⟨_, rfl⟩
      rw [hse] at hc1 hsz HAT HTK
      rw [hfe] at hc2 HAT
      have hnI : (n : Int) < rs.length := by omega
      have hbW : b < W.heap.size := by have := hbw.size; omega
      have hbg := fun X => begins_any m h X
      obtain ⟨q, hq⟩ : ∃ q, bg m h = q := ⟨_, rfl⟩
      rw [hq] at hbg HAT HTK
      have HBG := Lib.hid hbg
      clear hc hse hfe hrr hbg hq hbw
      go_wp2_with fail
      refine (HBG.out _).mono ?_
      rintro e w2 ⟨rfl, q2, hw2⟩
      have b2 : Below W.heap.size W w2 := by rw [hw2]; exact below_drewN (Below.refl _ _) q2
      have g1 := cell_stay b2 hbW hc1
      have g2 := cell_stay b2 hbW hc2
      have HW2 := Lib.hid (show ∃ q, w2 = w.drewN q by obtain ⟨q, h⟩ := HWR.out; rw [hw2, h]; exact ⟨_, World.drewN_drewN ..⟩)
      clear hw2 b2
      cases q with
      | true =>
        have HE := Lib.hid (HAT.out rfl)
        go_wp2
        go_ret
        exact ⟨ret_int HE.out.symm, HW2.out⟩
      | false =>
        go_wp2
        go_roundw
        case rel => exact ⟨n + 1, by omega, by go_num, by rw [HTK.out, HA.out]; rfl, HW2.out⟩
        case measure => simp [intOf]; omega
    · have hn' : n = rs.length := by omega
      subst hn'
      have HE := Lib.hid (show boxV rs m = -1 from boxV_none (by have := HA.out; rwa [List.take_length] at this))
      clear hrr
      go_wp2
      go_ret
      exact ⟨ret_int HE.out.symm, HWR.out⟩

set_option maxRecDepth 100000 in
theorem specBoxOf_any (A : Option Addr) (c : Nat) (rs : List (ByteArray × Int)) (s : ByteArray) (w : World) (hr : Own w 0 w.heap.size A (flat rs)) (hl : rs.length ≤ 1048576) (hz : s.size ≤ 1048576) (hs : ∀ r ∈ rs, r.1.size ≤ 1048576) :
    Calls Tryd.prog 18 #[.slice A rs.length c, .string s] w fun e w' => e = .returned (.int .i64 (boxOfV rs s)) ∧ ∃ n, w' = w.drewN n := by
  have hv := specvRules_any A c rs w hr hl hs
  have hd := fun X => validWord_any s X hz
  have ho := fun X hX => specbox_any A c rs s X hX hl hs
  obtain ⟨q, hq⟩ : ∃ q, rulesB rs = q := ⟨_, rfl⟩
  obtain ⟨p, hp⟩ : ∃ p, wordB s = p := ⟨_, rfl⟩
  have he : boxOfV rs s = if (q && p) = true then boxV rs s else -1 := by rw [boxOfV, hq, hp]
  rw [hq] at hv
  rw [hp] at hd
  rw [he]
  have HV := Lib.hid hv
  have HD := Lib.hid hd
  have HO := Lib.hid ho
  clear hv hd ho hq hp he hs
  go_enter Tryd.func18, Tryd.ntmps18
  go_wp2_with fail
  refine HV.out.mono ?_
  rintro e w1 ⟨rfl, n1, hw1⟩
  have b1 : Below w.heap.size w w1 := by rw [hw1]; exact below_drewN (Below.refl _ _) n1
  have hr1 := hr.past b1
  have HW := Lib.hid hw1
  clear hw1
  cases q
  · go_wp2
    go_ret
    exact ⟨rfl, n1, HW.out⟩
  · go_wp2_with fail
    refine (HD.out _).mono ?_
    rintro e w2 ⟨rfl, rfl⟩
    cases p
    · go_wp2
      go_ret
      exact ⟨rfl, n1, HW.out⟩
    · go_wp2_with fail
      refine (HO.out _ hr1).mono ?_
      rintro e w2 ⟨rfl, n2, hw2⟩
      have HW2 := Lib.hid (show ∃ q, w2 = w.drewN q by rw [hw2, HW.out]; exact ⟨_, World.drewN_drewN ..⟩)
      clear hw2
      go_wp2
      go_ret
      exact ⟨rfl, HW2.out⟩
end Go.Proofs.YtphfolmhlcmbjaaDoor
