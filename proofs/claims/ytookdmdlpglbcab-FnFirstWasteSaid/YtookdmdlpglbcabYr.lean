/- The walk of the law FnFirstWaste. No condition. -/
import Derived.Test.YtookdmdlpglbcabYq
namespace Go.Proofs.Ytookdmdlpglbcab
open Go.RowKit

theorem waste_parts {v : List Int} {t : Int} (h : IsWaste v t) (h0 : 0 ≤ t) : ∃ r : Nat, t = r ∧ r ≤ 140 ∧ gr v r ≠ fw v r ∧ ∀ j : Nat, j < r → gr v j = fw v j := by
  rcases h with ⟨h, _⟩ | h
  · omega
  · exact h

set_option maxRecDepth 100000 in
set_option maxHeartbeats 4000000 in
theorem fnFirstWaste_law (A : Option Addr) (c : Nat) (zs : List Int) (w : World) (hr : Own w 0 w.heap.size A (zs.map (Value.int .u8))) (hx : zs.length ≤ c ∧ c ≤ maxLen ∧ ∀ z ∈ zs, (Lit.int .u8 z).wf = true) :
    Calls Try.prog 5 #[.slice A zs.length c] w fun e w' => e = .returned (.bool true) ∧ Below w.heap.size w w' := by
  have hl : zs.length ≤ 9223372036854775807 := by have := hx.1; have := hx.2.1; unfold maxLen at this; omega
  have HX := Lib.hid hx
  clear hx
  by_cases h20 : zs.length ≤ 1048576
  · go_enter Try.func5, Try.ntmps5
    go_wp2_with fail
    refine (drawFirstWaste_any _ _ _ _ hr HX.out).mono ?_
    rintro e w1 ⟨B, d, rs, rfl, h6, hdc, hsm, ho, hb1⟩
    obtain ⟨q, hq⟩ : ∃ q, fwaV rs = q := ⟨_, rfl⟩
    have HQ := Lib.hid hq
    clear hsm hq
    go_wp2_with fail
    refine (impFW_ret _ _ _ _ ho _ HQ.out).mono ?_
    rintro e w2 ⟨rfl, hb2⟩
    have ho2 := ho.past hb2
    go_wp2_with fail
    refine (specFW_ret _ _ _ _ ho2 (by omega) _ HQ.out).mono ?_
    rintro e w3 ⟨rfl, hb3⟩
    have ho3 := ho2.past hb3
    have hb13 := (hb1.trans (hb2.mono hb1.size))
    have hb13 := hb13.trans (hb3.mono hb13.size)
    have hqq : (q != q) = false := by simp
    clear hb1 hb2 hb3 ho ho2
    by_cases hq0 : q < 0
    · go_wp2_with fail
      refine (specFW_ret _ _ _ _ ho3 (by omega) _ HQ.out).mono ?_
      rintro e w4 ⟨rfl, hb4⟩
      have hqe : (q == q) = true := by simp
      go_wp2_with fail
      go_ret
      exact ⟨rfl, hb13.trans (hb4.mono hb13.size)⟩
    · have hv : stampsB rs = true := by
        cases h : stampsB rs with
        | true => rfl
        | false => exfalso; have := HQ.out; rw [fwaV_no h] at this; omega
      have hws := waste_is rs
      rw [← fwaV_yes hv, HQ.out] at hws
      obtain ⟨t, rfl, ht, hne, hlow⟩ := waste_parts hws (by omega)
      have HV := Lib.hid hv
      have HNE := Lib.hid hne
      have HLOW := Lib.hid hlow
      have HB := Lib.hid hb13
      have hlen := stampsB_len hv
      clear hv hws hne hlow hb13
      go_wp2
      go_loopw [5] (fun i wr => ∃ k : Nat, k ≤ t + 1 ∧ i = .int .i64 k ∧ Below w3.heap.size w3 wr) (fun i _ => t + 1 - (intOf i).toNat)
      case atStart => exact ⟨0, by omega, rfl, Below.refl _ _⟩
      case round =>
        obtain ⟨k, hk, rfl, hbr⟩ := hrel
        have hor := ho3.past hbr
        have HBR := Lib.hid hbr
        by_cases hlt : k ≤ t
        · have hle : (k : Int) ≤ (t : Int) := by omega
          obtain ⟨f, hf⟩ : ∃ f, fw rs k = f := ⟨_, rfl⟩
          obtain ⟨g, hg⟩ : ∃ g, gr rs (k : Int) = g := ⟨_, rfl⟩
          have HF := Lib.hid (show fewV rs (k : Int) = f by rw [fewV_yes HV.out (inRI.2 (by omega)), hf])
          have HG := Lib.hid (show greV rs (k : Int) = g by rw [greV_yes HV.out (inRI.2 (by omega)), hg])
          by_cases hkt : k < t
          · have hgf : (g == f) = true := by rw [← hf, ← hg, HLOW.out k hkt]; simp
            have hkt' : (k : Int) < (t : Int) := by omega
            have hkd : decide ((k : Int) < (t : Int)) = true := decide_eq_true hkt'
            clear hf hg hbr
            go_wp2_with fail
            refine (impGS_ret _ _ _ _ _ hor _ HG.out).mono ?_
            rintro e w4 ⟨rfl, hb4⟩
            have hor4 := hor.past hb4
            go_wp2_with fail
            refine (impFS_ret _ _ _ _ _ hor4 _ HF.out).mono ?_
            rintro e w5 ⟨rfl, hb5⟩
            have HB5 := Lib.hid (show Below w3.heap.size w3 w5 from by have h := HBR.out.trans (hb4.mono HBR.out.size); exact h.trans (hb5.mono h.size))
            clear hb4 hb5 hor hor4
            go_wp2
            go_roundw
            case rel => exact ⟨k + 1, by omega, by go_num, HB5.out⟩
            case measure => simp [intOf]; omega
          · have hkk : k = t := by omega
            have hgf : (g == f) = false := by rw [← hf, ← hg, hkk]; exact beq_eq_false_iff_ne.2 HNE.out
            have hkt' : ¬ (k : Int) < (t : Int) := by omega
            have hkd : decide ((k : Int) < (t : Int)) = false := decide_eq_false hkt'
            clear hf hg hkk hbr
            go_wp2_with fail
            refine (impGS_ret _ _ _ _ _ hor _ HG.out).mono ?_
            rintro e w4 ⟨rfl, hb4⟩
            have hor4 := hor.past hb4
            go_wp2_with fail
            refine (impFS_ret _ _ _ _ _ hor4 _ HF.out).mono ?_
            rintro e w5 ⟨rfl, hb5⟩
            have HB5 := Lib.hid (show Below w3.heap.size w3 w5 from by have h := HBR.out.trans (hb4.mono HBR.out.size); exact h.trans (hb5.mono h.size))
            clear hb4 hb5 hor hor4
            go_wp2
            go_roundw
            case rel => exact ⟨k + 1, by omega, by go_num, HB5.out⟩
            case measure => simp [intOf]; omega
        · have hle : ¬ (k : Int) ≤ (t : Int) := by omega
          obtain ⟨b, o, rfl, hb, hc⟩ := hor.open (by rw [List.length_map]; omega)
          have hc0 := ints_at hc (show 0 < rs.length by omega)
          have hw0 := waste_low (x := t) HV.out
          rw [getD_get (show 0 < rs.length by omega)] at hw0
          have HFIN := Lib.hid (HB.out.trans (HBR.out.mono HB.out.size))
          obtain ⟨z0, hz0⟩ : ∃ z0, rs[0]'(by omega) = z0 := ⟨_, rfl⟩
          rw [hz0] at hc0 hw0
          have HW := Lib.hid hw0
          rw [Nat.add_zero] at hc0
          have hl0 : (0 : Int) < (rs.length : Int) := by omega
          have hl0' : 0 < rs.length := by omega
          by_cases hz1 : z0 = 1
          · have hzb : (z0 != 1) = false := by simp [hz1]
            obtain ⟨hn2, hlow⟩ := HW.out hz1 HNE.out HLOW.out
            obtain ⟨p, hp⟩ : ∃ p, rs.length - 1 = p := ⟨_, rfl⟩
            obtain ⟨r, hr2⟩ : ∃ r, rs.length - 2 = r := ⟨_, rfl⟩
            have hcp := ints_at hc (show p < rs.length by omega)
            have hcr := ints_at hc (show r < rs.length by omega)
            have hsp := stamp_mem HV.out (List.getElem_mem (show p < rs.length by omega))
            have hsr := stamp_mem HV.out (List.getElem_mem (show r < rs.length by omega))
            rw [hp, hr2, getD_get (show p < rs.length by omega), getD_get (show r < rs.length by omega)] at hlow
            obtain ⟨y, hy⟩ : ∃ y, rs[p]'(by omega) = y := ⟨_, rfl⟩
            obtain ⟨u, hu⟩ : ∃ u, rs[r]'(by omega) = u := ⟨_, rfl⟩
            rw [hy] at hcp hsp hlow
            rw [hu] at hcr hsr hlow
            obtain ⟨hy1, hy2⟩ := hsp
            obtain ⟨hu1, hu2⟩ := hsr
            have hs1 : (rs.length : Int) - 1 = (p : Int) := by omega
            have hs2 : (rs.length : Int) - 2 = (r : Int) := by omega
            have hw1 : IntKind.i64.wrap ((rs.length : Int) - 1) = (p : Int) := by rw [hs1]; exact IntWalk.i64_in _ (by omega)
            have hw2 : IntKind.i64.wrap ((rs.length : Int) - 2) = (r : Int) := by rw [hs2]; exact IntWalk.i64_in _ (by omega)
            have hw3 : IntKind.i64.wrap (y + u) = y + u := IntWalk.i64_in _ (by omega)
            have hd2 : decide ((2 : Int) < (rs.length : Int)) = true := decide_eq_true (by omega)
            have hdl : decide ((t : Int) < y + u) = true := decide_eq_true hlow
            have hpl : (p : Int) < (rs.length : Int) := by omega
            have hrl : (r : Int) < (rs.length : Int) := by omega
            clear hc hw0 hz0 hp hr2 hy hu hs1 hs2 hz1 hor hbr ho3 hn2 hlow
            go_wp2
            go_quiet (fail)
            go_wp2
            go_ret
            exact ⟨rfl, below_drewN HFIN.out _⟩
          · have hzb : (z0 != 1) = true := by simp [hz1]
            clear hc hw0 hz0 hz1 hor hbr ho3
            go_wp2
            go_quiet (fail)
            go_wp2
            go_ret
            exact ⟨rfl, below_drewN HFIN.out _⟩
  · go_enter Try.func5, Try.ntmps5
    go_wp2
    go_ret
    exact ⟨rfl, Below.refl _ _⟩
end Go.Proofs.Ytookdmdlpglbcab
