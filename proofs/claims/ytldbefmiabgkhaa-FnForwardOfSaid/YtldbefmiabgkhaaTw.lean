/- The walk of the law FnForwardOf. No condition. -/
import Derived.Test.YtldbefmiabgkhaaTv
import Derived.Test.YtldbefmiabgkhaaTa
import Derived.Test.YtldbefmiabgkhaaDi
namespace Go.Proofs.Ytldbefmiabgkhaa
open Go.RowKit

theorem isIn_no (A : Option Addr) (c : Nat) (zs : List Int) (x : Int) (w : World) (hr : Ints w w.heap.size A zs) (hl : zs.length ≤ 1000000000) (h : x ∉ zs) :
    Calls Try.prog 29 #[.slice A zs.length c, .int .i64 x] w fun e w' => e = .returned (.bool false) ∧ w' = w := by
  have := isIn_any A c zs x w hr hl
  rw [decide_eq_false h] at this
  exact this.mono fun _ _ ⟨h1, h2⟩ => ⟨h1, h2.symm⟩

set_option maxRecDepth 100000 in
set_option maxHeartbeats 8000000 in
theorem forwardOf_law (A : Option Addr) (c : Nat) (zs : List Int) (w : World) (hr : Own w 0 w.heap.size A (zs.map (Value.int .u8))) (hx : zs.length ≤ c ∧ c ≤ maxLen ∧ ∀ z ∈ zs, (Lit.int .u8 z).wf = true) :
    Calls Try.prog 8 #[.slice A zs.length c] w fun e w' => e = .returned (.bool true) ∧ Below w.heap.size w w' := by
  have hl : zs.length ≤ 9223372036854775807 := by have := hx.1; have := hx.2.1; unfold maxLen at this; omega
  obtain ⟨i0, hi0, hz0, hz1, hz2⟩ := info_parts Try.infoD
  have HX := Lib.hid hx
  clear hx
  by_cases h20 : zs.length ≤ 1048576
  · go_enter Try.func8, Try.ntmps8
    go_wp2_with fail
    refine (drawForwardOf_any _ _ _ _ hr HX.out).mono ?_
    rintro e w1 ⟨B, d, qs, i, rfl, hq10, ho, hb1⟩
    have HO := Lib.hid ho
    have HB1 := Lib.hid hb1
    have s1 := hb1.size
    obtain ⟨a, b, hab⟩ := exists_fwdR qs i
    have HAB := Lib.hid hab
    clear hb1 hr ho hab
    go_wp2_with fail
    refine (impForwardOf_any _ _ _ _ _ _ _ HO.out (by omega) HAB.out).mono ?_
    rintro e w2 ⟨rfl, hb2⟩
    have HB2 := Lib.hid (HB1.out.trans (hb2.mono s1))
    have HO2 := Lib.hid (HO.out.past hb2)
    clear hb2
    go_wp2_with fail
    refine (specForwardOf_any _ _ _ _ _ _ _ HO2.out (by omega) HAB.out).mono ?_
    rintro e w3 ⟨rfl, hb3⟩
    have HB3 := Lib.hid (HB2.out.trans (hb3.mono HB2.out.size))
    have HO3 := Lib.hid (HO2.out.past hb3)
    clear hb3
    have tn1 : (a != a) = false := by simp
    have tn2 : (b != b) = false := by simp
    have te1 : (a == a) = true := by simp
    have te2 : (b == b) = true := by simp
    rcases HAB.out with ⟨hv, rfl, rfl⟩ | ⟨hv, L, x, hfw, rfl, rfl⟩
    · clear hv
      go_wp2_with fail
      go_ret
      exact ⟨rfl, HB3.out⟩
    · have HFW := Lib.hid hfw
      have hLn := hfw.le
      have hxL := hfw.L1
      have h9 := hfw.n9
      have hii0 := hfw.i0.1
      have hii1 := hfw.i0.2
      have tx : decide ((x : Int) < 0) = false := decide_eq_false (by omega)
      obtain ⟨m, rfl⟩ : ∃ m : Nat, i = m := ⟨i.toNat, by omega⟩
      obtain ⟨b1, p1, rfl, hb1, hc1⟩ := HO3.out.open (by simp; omega)
      have HC := Lib.hid (fun (k : Nat) (hk : k < qs.length) => ints_at hc1 hk)
      have HST := Lib.hid (first_litD w3)
      have HC0 := Lib.hid (show fwC L x = if x + 1 = L then (0 : Int) else (L : Int) - x from rfl)
      have hCb : 0 ≤ fwC L x ∧ fwC L x ≤ 9 := by rw [HC0.out]; split <;> omega
      obtain ⟨y, hy⟩ : ∃ y, fwC L x = y := ⟨_, rfl⟩
      rw [hy] at tn2 te2 hCb ⊢
      have HY := Lib.hid hy
      clear hv hfw hc1 HAB hy
      go_wp2_with fail
      clear tn1 tn2 te1 te2 tx
      go_loopw [9, 10, 11] (fun t v kk wr => ∃ (k q c' : Nat) (H : Option Addr) (t' : Int), k ≤ x ∧ kk = .int .i64 k ∧ t = .int .i64 t' ∧ t' = orb qs m k ∧ v = .slice H q c' ∧ Hid (q = k) ∧ q ≤ 9 ∧ wr.ownsRow w3.heap.size 3 1 (.slice H q c') q ((orbL qs m k).map (Value.int .i64)) ∧ Below w3.heap.size w3 wr) (fun _ _ kk _ => x - (intOf kk).toNat)
      case atStart => exact ⟨0, 0, _, _, m, by omega, rfl, rfl, rfl, rfl, Lib.hid rfl, by omega, HST.out, (Below.refl _ _).alloc (Nat.le_refl _) _⟩
      case round =>
        clear HST
        obtain ⟨k, q, cH, H, t, hk, rfl, rfl, ht, rfl, HQ, hq9, hown, hbr⟩ := hrel
        have HO4 := Lib.hid hown
        have HBR := Lib.hid hbr
        have hbz := hbr.size
        have HT := Lib.hid ht
        have hin := HFW.out.inn k
        rw [← ht] at hin
        obtain ⟨tn, rfl⟩ : ∃ tn : Nat, t = tn := ⟨t.toNat, by omega⟩
        have htn : tn < qs.length := by omega
        have htI : (tn : Int) < (qs.length : Int) := by omega
        have hcell := (hbr.cell (p := ⟨b1, p1 + tn, none⟩) hb1).trans (HC.out tn htn)
        have hnx : qs[tn] = orb qs m (k + 1) := by
          show qs[tn] = qs.getD (orb qs m k).toNat 0
          rw [← HT.out, show ((tn : Int)).toNat = tn from rfl, getD_get htn]
        rw [hnx] at hcell
        obtain ⟨z, hz⟩ : ∃ z, orb qs m (k + 1) = z := ⟨_, rfl⟩
        rw [hz] at hcell
        have HZ := Lib.hid hz
        clear ht hnx hz
        by_cases hkx : k < x
        · have hno : (tn : Int) ∉ orbL qs m k := by rw [HT.out]; exact HFW.out.fresh (by omega)
          have hii := isIn_no H cH (orbL qs m k) (tn : Int) wr (own_of_rowS (by decide) hown).row (by rw [orbL_len]; omega) hno
          rw [orbL_len, ← HQ.out] at hii
          have HII := Lib.hid hii
          have HLS := Lib.hid (orbL_succ qs m k)
          clear hno hii hown hbr
          have hkI : (k : Int) < (x : Int) := by omega
          go_wp2_with (first | (go_at_call 29; (with_reducible refine HII.out.mono ?_); rintro e w' ⟨rfl, rfl⟩) | (at_builtin; refine wpList_push rfl (.tmp 64) (.tmp 66) 27 rfl i0 (.int .i64 0) 8 Try.underlying27 hi0 hz0 hz1 hz2 rfl (by decide) _ _ rfl HO4.out [.int .i64 (tn : Int)] rfl rfl (by simp [Value.oneCell']) (by omega) (by omega) hbz ?_))
          intro H' c' w6 hown6 hg6
          have hb6 := HBR.out.grown hg6 hbz (fun i hi => (HO4.out.lt _ hi).1)
          have hcell2 := (hb6.cell (p := ⟨b1, p1 + tn, none⟩) hb1).trans ((HBR.out.cell (p := ⟨b1, p1 + tn, none⟩) hb1).symm.trans hcell)
          have HW := Lib.hid (And.intro hown6 hb6)
          clear hown6 hg6 hb6 hcell
          go_wp2
          go_roundw
          case rel => exact ⟨k + 1, q + 1, c', H', z, by omega, by go_num, rfl, HZ.out.symm, rfl, Lib.hid (by rw [HQ.out]), by have := HQ.out; omega, by rw [HLS.out, ← HT.out, List.map_append]; exact HW.out.1, HW.out.2⟩
          case measure => simp [intOf]; omega
        · have hkx2 : k = x := by omega
          subst hkx2
          by_cases hxl : k + 1 = L
          · have hy0 : y = 0 := by rw [← HY.out, HC0.out, if_pos hxl]
            have hzt : z = (tn : Int) := by rw [← HZ.out, hxl, HFW.out.eq, HT.out]
            subst hy0
            rw [hzt] at hcell
            clear hown hbr hkx hxl hzt
            go_wp2_with fail
            go_ret
            exact ⟨by simp, HB3.out.trans (HBR.out.mono HB3.out.size)⟩
          · have hyv : y = (L : Int) - k := by rw [← HY.out, HC0.out, if_neg hxl]
            have ty0 : (y == 0) = false := by rw [beq_eq_false_iff_ne]; omega
            have ty1 : decide ((1 : Int) < y) = true := decide_eq_true (by omega)
            obtain ⟨Y, rfl⟩ : ∃ Y : Nat, y = Y := ⟨y.toNat, by omega⟩
            have ty0n : ((Y : Int) == 0) = false := ty0
            have HYV := Lib.hid (show k + Y = L by omega)
            have HW0 := Lib.hid (And.intro hown hbr)
            have hT2 := HT.out
            clear hown hbr hkx hyv hcell ty0
            go_wp2_with fail
            clear ty0n
            go_loopw [9, 10, 13] (fun t v kk wr => ∃ (j q c' : Nat) (H : Option Addr) (t' : Int), j ≤ Y ∧ kk = .int .i64 j ∧ t = .int .i64 t' ∧ t' = orb qs m (k + j) ∧ v = .slice H q c' ∧ Hid (q = k + j) ∧ q ≤ 9 ∧ wr.ownsRow w3.heap.size 3 1 (.slice H q c') q ((orbL qs m (k + j)).map (Value.int .i64)) ∧ Below w3.heap.size w3 wr) (fun _ _ kk _ => Y - (intOf kk).toNat)
            case atStart => exact ⟨0, q, cH, H, (tn : Int), by omega, rfl, rfl, by rw [Nat.add_zero]; exact HT.out, rfl, Lib.hid (by rw [HQ.out, Nat.add_zero]), hq9, by rw [Nat.add_zero]; exact HW0.out.1, HW0.out.2⟩
            case round =>
              clear HW0 HO4 HBR hbz hT2
              obtain ⟨j, q2, cH2, H2, t, hj, rfl, rfl, ht, rfl, HQ2, hq92, hown, hbr⟩ := hrel
              have HO5 := Lib.hid hown
              have HBR := Lib.hid hbr
              have hbz := hbr.size
              have HT2 := Lib.hid ht
              have hin2 := HFW.out.inn (k + j)
              rw [← ht] at hin2
              obtain ⟨tm, rfl⟩ : ∃ tm : Nat, t = tm := ⟨t.toNat, by omega⟩
              have htm : tm < qs.length := by omega
              have htmI : (tm : Int) < (qs.length : Int) := by omega
              have hcell := (hbr.cell (p := ⟨b1, p1 + tm, none⟩) hb1).trans (HC.out tm htm)
              have hnx : qs[tm] = orb qs m (k + (j + 1)) := by
                show qs[tm] = qs.getD (orb qs m (k + j)).toNat 0
                rw [← HT2.out, show ((tm : Int)).toNat = tm from rfl, getD_get htm]
              rw [hnx] at hcell
              obtain ⟨z2, hz2'⟩ : ∃ z, orb qs m (k + (j + 1)) = z := ⟨_, rfl⟩
              rw [hz2'] at hcell
              have HZ2 := Lib.hid hz2'
              clear ht hnx hz2'
              by_cases hjY : j < Y
              · have hno : (tm : Int) ∉ orbL qs m (k + j) := by rw [HT2.out]; exact HFW.out.fresh (by have := HYV.out; omega)
                have hii := isIn_no H2 cH2 (orbL qs m (k + j)) (tm : Int) wr (own_of_rowS (by decide) hown).row (by rw [orbL_len]; have := HQ2.out; omega) hno
                rw [orbL_len, ← HQ2.out] at hii
                have HII := Lib.hid hii
                have HLS := Lib.hid (show orbL qs m (k + (j + 1)) = orbL qs m (k + j) ++ [orb qs m (k + j)] from orbL_succ qs m (k + j))
                clear hno hii hown hbr
                have hjI : (j : Int) < (Y : Int) := by omega
                go_wp2_with (first | (go_at_call 29; (with_reducible refine HII.out.mono ?_); rintro e w' ⟨rfl, rfl⟩) | (at_builtin; refine wpList_push rfl (.tmp 89) (.tmp 91) 27 rfl i0 (.int .i64 0) 8 Try.underlying27 hi0 hz0 hz1 hz2 rfl (by decide) _ _ rfl HO5.out [.int .i64 (tm : Int)] rfl rfl (by simp [Value.oneCell']) (by omega) (by omega) hbz ?_))
                intro H' c' w6 hown6 hg6
                have hb6 := HBR.out.grown hg6 hbz (fun i hi => (HO5.out.lt _ hi).1)
                have hcell2 := (hb6.cell (p := ⟨b1, p1 + tm, none⟩) hb1).trans ((HBR.out.cell (p := ⟨b1, p1 + tm, none⟩) hb1).symm.trans hcell)
                have HW := Lib.hid (And.intro hown6 hb6)
                clear hown6 hg6 hb6 hcell
                go_wp2
                go_roundw
                case rel => exact ⟨j + 1, q2 + 1, c', H', z2, by omega, by go_num, rfl, HZ2.out.symm, rfl, Lib.hid (by rw [HQ2.out]; rfl), by have := HQ2.out; have := HYV.out; omega, by rw [HLS.out, ← HT2.out, List.map_append]; exact HW.out.1, HW.out.2⟩
                case measure => simp [intOf]; omega
              · have hje : j = Y := by omega
                subst hje
                have htt : tm = tn := by
                  have h1 := HT2.out
                  rw [HYV.out, HFW.out.eq, ← HT.out] at h1
                  omega
                subst htt
                have ttt : ((tm : Int) == (tm : Int)) = true := by simp
                clear hown hbr hcell
                go_wp2_with fail
                go_ret
                exact ⟨by simp, HB3.out.trans (HBR.out.mono HB3.out.size)⟩
  · go_enter Try.func8, Try.ntmps8
    go_wp2
    go_ret
    exact ⟨rfl, Below.refl _ _⟩
end Go.Proofs.Ytldbefmiabgkhaa
