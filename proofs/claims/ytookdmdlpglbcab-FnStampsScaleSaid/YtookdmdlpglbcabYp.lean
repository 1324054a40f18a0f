/- The walk of the law FnStampsScale. No condition. -/
import Derived.Test.YtookdmdlpglbcabYo
import Derived.Test.YtookdmdlpglbcabYl
import Derived.Test.YtookdmdlpglbcabN9i
namespace Go.Proofs.Ytookdmdlpglbcab
open Go.RowKit

def dblT (rs : List Int) (k : Nat) : List Int := (rs.take k).map (2 * ·)
theorem dblT_zero (rs : List Int) : dblT rs 0 = [] := by simp [dblT]
theorem dblT_all (rs : List Int) : dblT rs rs.length = rs.map (2 * ·) := by rw [dblT, List.take_length]

set_option maxRecDepth 100000 in
set_option maxHeartbeats 4000000 in
theorem fnStampsScale_law (A : Option Addr) (c : Nat) (zs : List Int) (w : World) (hr : Own w 0 w.heap.size A (zs.map (Value.int .u8))) (hx : zs.length ≤ c ∧ c ≤ maxLen ∧ ∀ z ∈ zs, (Lit.int .u8 z).wf = true) :
    Calls Try.prog 9 #[.slice A zs.length c] w fun e w' => e = .returned (.bool true) ∧ Below w.heap.size w w' := by
  have hl : zs.length ≤ 9223372036854775807 := by have := hx.1; have := hx.2.1; unfold maxLen at this; omega
  have HX := Lib.hid hx
  clear hx
  obtain ⟨i0, hi0, hz0, hz1, hz2⟩ := info_parts Try.info3
  by_cases h20 : zs.length ≤ 1048576
  · go_enter Try.func9, Try.ntmps9
    go_wp2_with fail
    refine (drawFewestStamps_any _ _ _ _ hr HX.out).mono ?_
    rintro e w1 ⟨B, d, rs, rate, rfl, hrb, h6, hdc, hsm, ho, hb1⟩
    obtain ⟨hrb1, hrb2⟩ := hrb
    have HSM := Lib.hid hsm
    obtain ⟨q, hq⟩ : ∃ q, fewV rs rate = q := ⟨_, rfl⟩
    have HQ := Lib.hid hq
    clear hsm hq
    go_wp2_with fail
    refine (impFS_ret _ _ _ _ _ ho _ HQ.out).mono ?_
    rintro e w2 ⟨rfl, hb2⟩
    have ho2 := ho.past hb2
    go_wp2_with fail
    refine (specFS_ret _ _ _ _ _ ho2 (by omega) _ HQ.out).mono ?_
    rintro e w3 ⟨rfl, hb3⟩
    have ho3 := ho2.past hb3
    have hb13 := (hb1.trans (hb2.mono hb1.size))
    have hb13 := hb13.trans (hb3.mono hb13.size)
    have hqq : (q != q) = false := by simp
    clear hb1 hb2 hb3 ho ho2
    go_wp2_with fail
    refine (impFS_ret _ _ _ _ _ ho3 _ HQ.out).mono ?_
    rintro e w4 ⟨rfl, hb4⟩
    have ho4 := ho3.past hb4
    have HB := Lib.hid (hb13.trans (hb4.mono hb13.size))
    have HST := Lib.hid (first_lit' w4 w4.heap.size w4.heap.size (Nat.le_refl _) rfl)
    clear hb13 hb4 ho3 hqq
    go_wp2
    go_loopw [7, 6] (fun i o wr => ∃ (k : Nat) (A' : Option Addr) (c' : Nat), k ≤ rs.length ∧ i = .int .i64 k ∧ o = .slice A' k c' ∧
        wr.ownsRow w4.heap.size 3 1 (.slice A' k c') k ((dblT rs k).map (Value.int .i64)) ∧ Below w4.heap.size w4 wr) (fun i _ _ => rs.length - (intOf i).toNat)
    case atStart => exact ⟨0, _, _, by omega, rfl, rfl, by rw [dblT_zero]; exact HST.out, (Below.refl _ _).alloc (Nat.le_refl _) _⟩
    case round =>
      obtain ⟨k, A', c', hk, rfl, rfl, hown, hbr⟩ := hrel
      clear HST
      have HBR := Lib.hid hbr
      have hor := ho4.below hbr
      by_cases hlt : k < rs.length
      · obtain ⟨b, o, rfl, hb, hc⟩ := hor.open (by simp; omega)
        have hcell := ints_at hc hlt
        have HTK := Lib.hid (show dblT rs (k + 1) = dblT rs k ++ [2 * rs[k]] by rw [dblT, dblT, ← List.take_append_getElem hlt, List.map_append]; rfl)
        have hsb := HSM.out _ (List.getElem_mem hlt)
        obtain ⟨s, hse⟩ : ∃ s, rs[k] = s := ⟨_, rfl⟩
        rw [hse] at hcell HTK hsb
        obtain ⟨hs1, hs2⟩ := hsb
        have hws : IntKind.i64.wrap (2 * s) = 2 * s := IntWalk.i64_in _ (by omega)
        have hsz := hbr.size
        clear hc hse hbr hor
        go_wp2_with (at_builtin; refine wpList_push rfl (.tmp 33) (.tmp 39) 23 rfl i0 (.int .i64 0) 8 Try.underlying23 hi0 hz0 hz1 hz2 rfl (by decide) _ _ rfl hown [.int .i64 (2 * s)] rfl rfl (by simp [Value.oneCell']) (by omega) (by omega) (by omega) ?_)
        intro A2 c2 w6 hown2 hg2
        have HF := Lib.hid (And.intro hown2 (HBR.out.grown hg2 HBR.out.size (fun i hi => (hown.lt _ hi).1)))
        clear hown hown2 hg2 hws
        go_wp2
        go_roundw
        case rel => exact ⟨k + 1, A2, c2, by omega, by go_num, rfl, by rw [HTK.out, List.map_append]; exact HF.out.1, HF.out.2⟩
        case measure => simp [intOf]; omega
      · have hk' : k = rs.length := by omega
        subst hk'
        rw [dblT_all] at hown
        have hod := own_of_rowS (by decide) hown
        have hod2 : Ints wr wr.heap.size A' (rs.map (2 * ·)) := hod.row
        have hlm : (rs.map (2 * ·)).length = rs.length := List.length_map ..
        have hor2 := hor.more hbr.size
        have HFIN := Lib.hid (HB.out.trans (HBR.out.mono HB.out.size))
        obtain ⟨ds, hds⟩ : ∃ ds, rs.map (2 * ·) = ds := ⟨_, rfl⟩
        rw [hds] at hod2 hlm
        have HDS := Lib.hid hds
        clear hown hod hbr hor hds ho4
        by_cases hv : stampsB rs = true
        · have HV := Lib.hid hv
          have HI1 := Lib.hid (impVS_ret B d rs wr hor2 true hv)
          clear hv
          by_cases hd : stampsB ds = true
          · have HD := Lib.hid hd
            have hi2 := impVS_ret A' c' ds wr hod2 true hd
            rw [hlm] at hi2
            have HI2 := Lib.hid hi2
            clear hd hi2
            by_cases hr0 : rate < 0
            · go_wp2_with fail
              refine HI1.out.mono ?_
              rintro e w6 ⟨rfl, rfl⟩
              go_wp2_with fail
              refine HI2.out.mono ?_
              rintro e w6 ⟨rfl, rfl⟩
              go_wp2
              go_ret
              exact ⟨rfl, HFIN.out⟩
            · have hw1 : IntKind.i64.wrap (2 * rate) = 2 * rate := IntWalk.i64_in _ (by omega)
              have hw2 : IntKind.i64.wrap (2 * rate + 1) = 2 * rate + 1 := IntWalk.i64_in _ (by omega)
              by_cases hbig : 140 < 2 * rate + 1
              · go_wp2_with fail
                refine HI1.out.mono ?_
                rintro e w6 ⟨rfl, rfl⟩
                go_wp2_with fail
                refine HI2.out.mono ?_
                rintro e w6 ⟨rfl, rfl⟩
                go_wp2
                go_ret
                exact ⟨rfl, HFIN.out⟩
              · obtain ⟨m, rfl⟩ := Int.eq_ofNat_of_zero_le (show 0 ≤ rate by omega)
                have hp : ∀ s ∈ rs, 1 ≤ s := fun s hs => (stamp_mem HV.out hs).1
                have e1 : fewV ds (2 * (m : Int)) = q := by
                  have : (2 * (m : Int)) = ((2 * m : Nat) : Int) := by omega
                  rw [this, fewV_yes HD.out (inRI.2 (by omega)), ← HDS.out, fw_twice hp, ← HQ.out, fewV_yes HV.out (inRI.2 (by omega))]
                have e2 : fewV ds (2 * (m : Int) + 1) = -1 := by
                  have : (2 * (m : Int) + 1) = ((2 * m + 1 : Nat) : Int) := by omega
                  rw [this, fewV_yes HD.out (inRI.2 (by omega)), ← HDS.out, fw_odd hp]
                have h1 := impFS_ret A' c' ds (2 * (m : Int)) wr hod2 q e1
                have h2 := fun W h => impFS_ret A' c' ds (2 * (m : Int) + 1) W h (-1) e2
                rw [hlm] at h1 h2
                have H1 := Lib.hid h1
                have H2 := Lib.hid h2
                have hqe : (q == q) = true := by simp
                clear h1 h2 e1 e2 hp
                go_wp2_with fail
                refine HI1.out.mono ?_
                rintro e w6 ⟨rfl, rfl⟩
                go_wp2_with fail
                refine HI2.out.mono ?_
                rintro e w6 ⟨rfl, rfl⟩
                go_wp2_with fail
                refine H1.out.mono ?_
                rintro e w7 ⟨rfl, hb7⟩
                have hod3 := hod2.past hb7
                go_wp2_with fail
                refine (H2.out _ hod3).mono ?_
                rintro e w8 ⟨rfl, hb8⟩
                have hb78 := HFIN.out.trans (hb7.mono HFIN.out.size)
                go_wp2
                go_ret
                exact ⟨rfl, hb78.trans (hb8.mono hb78.size)⟩
          · have hd' : stampsB ds = false := by simpa using hd
            have hi2 := impVS_ret A' c' ds wr hod2 false hd'
            rw [hlm] at hi2
            have HI2 := Lib.hid hi2
            clear hd hd' hi2
            go_wp2_with fail
            refine HI1.out.mono ?_
            rintro e w6 ⟨rfl, rfl⟩
            go_wp2_with fail
            refine HI2.out.mono ?_
            rintro e w6 ⟨rfl, rfl⟩
            go_wp2
            go_ret
            exact ⟨rfl, HFIN.out⟩
        · have hv' : stampsB rs = false := by simpa using hv
          have HI1 := Lib.hid (impVS_ret B d rs wr hor2 false hv')
          clear hv hv'
          go_wp2_with fail
          refine HI1.out.mono ?_
          rintro e w6 ⟨rfl, rfl⟩
          go_wp2
          go_ret
          exact ⟨rfl, HFIN.out⟩
  · go_enter Try.func9, Try.ntmps9
    go_wp2
    go_ret
    exact ⟨rfl, Below.refl _ _⟩
end Go.Proofs.Ytookdmdlpglbcab
