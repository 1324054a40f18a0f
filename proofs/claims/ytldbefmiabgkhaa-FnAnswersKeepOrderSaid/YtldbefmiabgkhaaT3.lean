/- Answers: how deep they lie, both. No condition. -/
import Derived.Test.YtldbefmiabgkhaaT2
import Derived.Test.YtldbefmiabgkhaaN9i
import Derived.Test.YtldbefmiabgkhaaEx
namespace Go.Proofs.Ytldbefmiabgkhaa
open Go.RowKit

theorem getD_none {zs : List Int} {k : Nat} (h : ¬ k < zs.length) : zs.getD k 0 = 0 := by simp [List.getD, List.getElem?_eq_none (Nat.le_of_not_lt h)]
def depL (zs : List Int) : List Int := if ansB zs then tab zs.length (dv zs) else []
theorem depL_yes {zs : List Int} (h : ansB zs = true) : depL zs = tab zs.length (dv zs) := by rw [depL, if_pos h]
theorem depL_no {zs : List Int} (h : ansB zs = false) : depL zs = [] := by rw [depL, if_neg (by simp [h])]
theorem tab_succ (f : Nat → Int) (k : Nat) : tab (k + 1) f = tab k f ++ [f k] := by simp [tab, List.range_succ]
theorem Try.infoD : (Try.prog.info? 3).map (fun i => (i.zero, i.size, i.bytes)) = some (some (.int .i64 0), 1, 8) := by kernel_rfl
theorem first_litD (W : World) : (W.alloc (.cells #[] 3)).ownsRow W.heap.size 3 1 (.slice (some ⟨W.heap.size, 0, none⟩) 0 0) 0 [] := ⟨rfl, .inr ⟨W.heap.size, 0, #[], rfl, Nat.le_refl _, heap_alloc_new W _, Nat.le_refl _, by simp [maxLen], rfl, rfl⟩⟩

set_option maxRecDepth 100000 in
set_option maxHeartbeats 4000000 in
theorem specDepthsOf_any (A : Option Addr) (c : Nat) (zs : List Int) (w : World) (hr : Ints w w.heap.size A zs) (hl : zs.length ≤ 1000000000) :
    Calls Try.prog 25 #[.slice A zs.length c] w (iRes w (depL zs)) := by
  obtain ⟨i0, hi0, hz0, hz1, hz2⟩ := info_parts Try.infoD
  have H := Lib.hid (validThreads_any A c zs w hr hl)
  by_cases hv : ansB zs = true
  · have HD := Lib.hid (depL_yes hv)
    have HAN := Lib.hid (ans_of hv)
    have hl9 := HAN.out.n9
    rw [hv] at H
    have HST := Lib.hid (first_litD w)
    clear hv hl
    go_enter Try.func25, Try.ntmps25
    go_wp2_with (go_at_call 42; (with_reducible refine H.out.mono ?_); rintro e w' ⟨rfl, rfl⟩)
    clear H
    go_loopw [3, 4] (fun v i wr => ∃ (k m : Nat) (H : Option Addr) (cH : Nat), k ≤ zs.length ∧ i = .int .i64 k ∧ v = .slice H m cH ∧ m = k ∧ wr.ownsRow w.heap.size 3 1 (.slice H m cH) m ((tab k (dv zs)).map (Value.int .i64)) ∧ Below w.heap.size w wr) (fun _ i _ => zs.length - (intOf i).toNat)
    case atStart => exact ⟨0, 0, _, _, by omega, rfl, rfl, rfl, HST.out, (Below.refl _ _).alloc (Nat.le_refl _) _⟩
    case round =>
      obtain ⟨k, m, H, cH, hk, rfl, rfl, hm, hown, hbr⟩ := hrel
      clear HST
      have HM := Lib.hid hm
      have HO := Lib.hid hown
      have HBR := Lib.hid hbr
      have hbz := hbr.size
      by_cases hlt : k < zs.length
      · obtain ⟨b, o, rfl, hb, hc⟩ := (hr.below hbr).open (by simp; omega)
        have hcell := ints_at hc hlt
        have HZ := Lib.hid (getD_get hlt)
        have hkI : (k : Int) < zs.length := by omega
        have hhi := HAN.out.hi k hlt
        have hlo := HAN.out.lo k hlt
        have HSU := Lib.hid (tab_succ (dv zs) k)
        obtain ⟨z, hz⟩ : ∃ z, zs[k] = z := ⟨_, rfl⟩
        rw [hz] at hcell HZ
        rw [HZ.out] at hhi hlo
        clear hc hz hm
        by_cases hneg : z < 0
        · have hd : decide ((0 : Int) ≤ z) = false := decide_eq_false (by omega)
          have HV := Lib.hid (dv_root (zs := zs) (k := k) (by rw [HZ.out]; exact hneg))
          clear hneg hown hbr
          go_wp2_with (at_builtin; refine wpList_push rfl (.tmp 29) (.tmp 31) 27 rfl i0 (.int .i64 0) 8 Try.underlying27 hi0 hz0 hz1 hz2 rfl (by decide) _ _ rfl HO.out [.int .i64 0] rfl rfl (by simp [Value.oneCell']) (by have := HM.out; omega) (by omega) hbz ?_)
          intro H' c' w6 hown6 hg6
          have HW := Lib.hid (And.intro hown6 (HBR.out.grown hg6 hbz (fun i hi => (HO.out.lt _ hi).1)))
          clear hown6 hg6
          go_wp2
          go_roundw
          case rel => exact ⟨k + 1, m + 1, H', c', by omega, by go_num, rfl, by rw [HM.out], by rw [HSU.out, HV.out, List.map_append]; exact HW.out.1, HW.out.2⟩
          case measure => simp [intOf]; omega
        · have hd : decide ((0 : Int) ≤ z) = true := decide_eq_true (by omega)
          obtain ⟨j, rfl⟩ : ∃ j : Nat, z = j := ⟨z.toNat, by omega⟩
          have hjk : j < k := by omega
          have HV := Lib.hid (dv_step HAN.out hlt HZ.out)
          have hdb := dv_bd HAN.out j (by omega)
          obtain ⟨g, rfl, hg1, hg2⟩ := own_some hown (by have := HM.out; omega)
          have hcj := hown.cellAt j (by have := HM.out; omega)
          rw [tab_vals_get hjk] at hcj
          obtain ⟨d, hde⟩ : ∃ d, dv zs j = d := ⟨_, rfl⟩
          rw [hde] at hcj hdb HV
          have hjm : (j : Int) < (m : Int) := by have := HM.out; omega
          clear hneg hown hbr hde
          go_wp2_with (at_builtin; refine wpList_push rfl (.tmp 29) (.tmp 31) 27 rfl i0 (.int .i64 0) 8 Try.underlying27 hi0 hz0 hz1 hz2 rfl (by decide) _ _ rfl HO.out [.int .i64 (d + 1)] rfl rfl (by simp [Value.oneCell']) (by have := HM.out; omega) (by omega) hbz ?_)
          intro H' c' w6 hown6 hg6
          have HW := Lib.hid (And.intro hown6 (HBR.out.grown hg6 hbz (fun i hi => (HO.out.lt _ hi).1)))
          clear hown6 hg6
          go_wp2
          go_roundw
          case rel => exact ⟨k + 1, m + 1, H', c', by omega, by go_num, rfl, by rw [HM.out], by rw [HSU.out, HV.out, List.map_append]; exact HW.out.1, HW.out.2⟩
          case measure => simp [intOf]; omega
      · have hkn : k = zs.length := by omega
        subst hkn
        have HF := Lib.hid (show iRes w (depL zs) (.returned (.slice H m cH)) wr by rw [HD.out]; exact iRes_row HO.out (by rw [tab_length]; exact HM.out) HBR.out)
        go_wp2
        go_ret
        exact HF.out
  · have hv' : ansB zs = false := by simpa using hv
    have HD := Lib.hid (depL_no hv')
    rw [hv'] at H
    clear hv hv'
    go_enter Try.func25, Try.ntmps25
    go_wp2_with (go_at_call 42; (with_reducible refine H.out.mono ?_); rintro e w' ⟨rfl, rfl⟩)
    go_ret
    exact iRes.none HD.out (Below.refl _ _)

set_option maxRecDepth 100000 in
set_option maxHeartbeats 4000000 in
theorem impDepthsOf_any (A : Option Addr) (c : Nat) (zs : List Int) (w : World) (hr : Ints w w.heap.size A zs) (hl : zs.length ≤ 1000000000) :
    Calls Try.prog 26 #[.slice A zs.length c] w (iRes w (depL zs)) := by
  obtain ⟨i0, hi0, hz0, hz1, hz2⟩ := info_parts Try.infoD
  have H := Lib.hid (areAnswers_any A c zs w hr hl)
  by_cases hv : ansB zs = true
  · have HD := Lib.hid (depL_yes hv)
    have HAN := Lib.hid (ans_of hv)
    have hl9 := HAN.out.n9
    rw [hv] at H
    clear hv hl
    go_enter Try.func26, Try.ntmps26
    go_wp2_with (first | (go_at_call 44; (with_reducible refine H.out.mono ?_); rintro e w' ⟨rfl, rfl⟩) | (at_make; refine wpList_make_full _ rfl (.tmp 10) (.tmp 10) _ rfl w.heap.size 3 i0 (.int .i64 0) 1 Try.underlying27 hi0 hz0 hz1 _ _ _ _ _ rfl rfl rfl rfl (by rw [hz2]; omega) (by unfold maxLen; omega) (Nat.le_refl _) ?_))
    intro w1 hown hg
    have hb1 : Below w.heap.size w w1 := (Below.refl _ _).grown hg (Nat.le_refl _) (by simp)
    have HST := Lib.hid (show w1.ownsRow w.heap.size 3 1 (.slice (some ⟨w.heap.size, 0, none⟩) zs.length zs.length) zs.length ((tab zs.length (fun j => if j < 0 then dv zs j else 0)).map (Value.int .i64)) by
      have h1 := hown
      rw [toList_madeCells_one, show List.replicate zs.length (Value.int .i64 0) = (List.replicate zs.length (0 : Int)).map (Value.int .i64) by simp, tab_zero] at h1
      exact h1)
    clear hown hg H
    go_wp2
    go_loopw [14] (fun i wr => ∃ k : Nat, k ≤ zs.length ∧ i = .int .i64 k ∧ wr.ownsRow w.heap.size 3 1 (.slice (some ⟨w.heap.size, 0, none⟩) zs.length zs.length) zs.length ((tab zs.length (fun j => if j < k then dv zs j else 0)).map (Value.int .i64)) ∧ Below w.heap.size w wr) (fun i _ => zs.length - (intOf i).toNat)
    case atStart => exact ⟨0, by omega, rfl, HST.out, hb1⟩
    case round =>
      obtain ⟨k, hk, rfl, hown, hbr⟩ := hrel
      clear HST hb1
      have HO := Lib.hid hown
      have HBR := Lib.hid hbr
      have hbz := hbr.size
      by_cases hlt : k < zs.length
      · obtain ⟨b, o, rfl, hb, hc⟩ := (hr.below hbr).open (by simp; omega)
        have hcell := ints_at hc hlt
        have HZ := Lib.hid (getD_get hlt)
        have hkI : (k : Int) < zs.length := by omega
        have hhi := HAN.out.hi k hlt
        have hlo := HAN.out.lo k hlt
        obtain ⟨z, hz⟩ : ∃ z, zs[k] = z := ⟨_, rfl⟩
        rw [hz] at hcell HZ
        rw [HZ.out] at hhi hlo
        clear hc hz
        by_cases hneg : z = -1
        · have t0 : (z != -1) = false := by simp [hneg]
          have HV := Lib.hid (dv_root (zs := zs) (k := k) (by rw [HZ.out]; omega))
          have HE := Lib.hid (show tab zs.length (fun j => if j < k + 1 then dv zs j else 0) = tab zs.length (fun j => if j < k then dv zs j else 0) from tab_congr fun j hj => by
            by_cases e : j = k
            · subst e; rw [if_pos (by omega), if_neg (by omega), HV.out]
            · by_cases e2 : j < k
              · rw [if_pos (by omega), if_pos e2]
              · rw [if_neg (by omega), if_neg e2])
          clear hneg hown hbr
          go_wp2
          go_roundw
          case rel => exact ⟨k + 1, by omega, by go_num, by rw [HE.out]; exact HO.out, HBR.out⟩
          case measure => simp [intOf]; omega
        · have t0 : (z != -1) = true := by simp [hneg]
          obtain ⟨j, rfl⟩ : ∃ j : Nat, z = j := ⟨z.toNat, by omega⟩
          have hjk : j < k := by omega
          have hjI : (j : Int) < zs.length := by omega
          have HV := Lib.hid (dv_step HAN.out hlt HZ.out)
          have hdb := dv_bd HAN.out j (by omega)
          have hcj := hown.cellAt j (by omega)
          have hck := hown.cellAt k (by omega)
          have hfk := hown.frozenAt k
          rw [tab_vals_get (by omega)] at hcj hck
          rw [if_pos hjk] at hcj
          have HSE := Lib.hid (show ((tab zs.length (fun j => if j < k then dv zs j else 0)).map (Value.int .i64)).set k (.int .i64 (dv zs j + 1)) = (tab zs.length (fun j => if j < k + 1 then dv zs j else 0)).map (Value.int .i64) by
            rw [← List.map_set, tab_set' (g := fun j => if j < k + 1 then dv zs j else 0)]
            intro i hi
            by_cases e : i = k
            · subst e; simp [HV.out]
            · rw [if_neg e]
              by_cases e2 : i < k
              · rw [if_pos (by omega), if_pos e2]
              · rw [if_neg (by omega), if_neg e2])
          obtain ⟨d, hde⟩ : ∃ d, dv zs j = d := ⟨_, rfl⟩
          rw [hde] at hcj hdb HV HSE
          clear hneg hown hbr hde
          go_wp2
          go_roundw
          case rel => exact ⟨k + 1, by omega, by go_num, by rw [← HSE.out]; exact (HO.out.stored k (.int .i64 (d + 1))).1, HBR.out.setCell (p := ⟨w.heap.size, k, none⟩) (Nat.le_refl _) _⟩
          case measure => simp [intOf]; omega
      · have hkn : k = zs.length := by omega
        subst hkn
        have HF := Lib.hid (show iRes w (depL zs) (.returned (.slice (some ⟨w.heap.size, 0, none⟩) zs.length zs.length)) wr by
          rw [HD.out]
          have e : tab zs.length (dv zs) = tab zs.length (fun j => if j < zs.length then dv zs j else 0) := tab_congr fun j hj => by rw [if_pos hj]
          rw [e]; exact iRes_row HO.out (by rw [tab_length]) HBR.out)
        go_wp2
        go_ret
        exact HF.out
  · have hv' : ansB zs = false := by simpa using hv
    have HD := Lib.hid (depL_no hv')
    rw [hv'] at H
    clear hv hv'
    go_enter Try.func26, Try.ntmps26
    go_wp2_with (go_at_call 44; (with_reducible refine H.out.mono ?_); rintro e w' ⟨rfl, rfl⟩)
    go_ret
    exact iRes.none HD.out (Below.refl _ _)
end Go.Proofs.Ytldbefmiabgkhaa
