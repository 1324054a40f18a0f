/- The walk of the law FnCallsBackwards. No condition. -/
import Derived.Test.YtonnffilcmlodaaV11p
import Derived.Test.YtonnffilcmlodaaV10
import Derived.Test.YtonnffilcmlodaaEq
namespace Go.Proofs.Ytonnffilcmlodaa
open Go.RowKit

theorem bits_back {m : Nat} (hm : m ≤ 7) {cs : List (List Int)} (h2 : TwoC m cs) {i k : Nat} (hi : i < m) (hk : k < m) : ∃ x y r : Nat, (kn m cs)[i]? = some (x : Int) ∧ (kn m cs.reverse)[k]? = some (y : Int) ∧ x < 128 ∧ y < 128 ∧ x / 2 ^ k % 2 = r ∧ y / 2 ^ i % 2 = r := by
  obtain ⟨x, h1, h3, h4⟩ := kn_nat hm cs hi
  obtain ⟨y, g1, g3, g4⟩ := kn_nat hm cs.reverse hk
  have he := kn_rev cs.length cs rfl h2 i k hi hk
  rw [h4, g4, Nat.testBit_eq_decide_div_mod_eq, Nat.testBit_eq_decide_div_mod_eq] at he
  refine ⟨x, y, x / 2 ^ k % 2, h1, g1, h3, g3, rfl, ?_⟩
  have := decide_eq_decide.1 he
  omega
theorem gridAt_rev {w : World} {B : Nat} {hs : List Value} {rs : List (List Int)} (h : GridAt w 0 B hs rs) : GridAt w 0 B hs.reverse rs.reverse := by
  refine ⟨by rw [List.length_reverse, List.length_reverse, h.1], fun i hi => ?_⟩
  rw [List.length_reverse] at hi
  obtain ⟨A, c, g1, g2, g3⟩ := h.2 (rs.length - 1 - i) (by omega)
  have e : rs.reverse[i]'(by simp; omega) = rs[rs.length - 1 - i] := by rw [List.getElem_reverse]
  rw [e]
  refine ⟨A, c, ?_, g2, g3⟩
  rw [List.getElem?_reverse (by rw [h.1]; omega), h.1]
  exact g1
theorem belR (w : World) (o : Obj) : Below w.heap.size w (w.alloc o) := (Below.refl _ _).alloc (Nat.le_refl _) _

set_option maxRecDepth 100000 in
set_option maxHeartbeats 8000000 in
theorem callsBackwards_law (A : Option Addr) (c : Nat) (zs : List Int) (v0 : World) (hr : Own v0 0 v0.heap.size A (zs.map (Value.int .u8))) (hx : zs.length ≤ c ∧ c ≤ maxLen ∧ ∀ z ∈ zs, (Lit.int .u8 z).wf = true) :
    Calls Try.prog 8 #[.slice A zs.length c] v0 fun e w' => e = .returned (.bool true) ∧ Below v0.heap.size v0 w' := by
  obtain ⟨i0, hi0, hz0, hz1, hz2⟩ := info_parts Try.infoR
  have hl : zs.length ≤ 9223372036854775807 := by have := hx.1; have := hx.2.1; unfold maxLen at this; omega
  have HX := Lib.hid hx
  clear hx
  by_cases h20 : zs.length ≤ 1048576
  · go_enter Try.func8, Try.ntmps8
    go_wp2_with fail
    refine (drawKnownAfter_any _ _ _ _ hr HX.out).mono ?_
    rintro e w ⟨n, A1, c1, rs, rfl, ⟨hn0, hn8⟩, hl22, hcap, htw, hdr, hgr, hb0⟩
    have HB0 := Lib.hid hb0
    have z00 := hb0.size
    have HGR := Lib.hid hgr
    have HTW := Lib.hid (show ∀ r ∈ rs, r.length ≤ 1000000000 from fun r hr => by have := htw r hr; omega)
    obtain ⟨V, hV⟩ : ∃ V, knL n rs = V := ⟨_, rfl⟩
    have HV := Lib.hid hV
    have hVl : V.length ≤ 8 := by
      rw [← hV]; unfold knL; split
      · rw [kn_len]; omega
      · simp
    have HES := Lib.hid (eqISelf V)
    clear hV hb0 hgr htw hdr hr
    go_wp2_with fail
    refine (impKnownAfter_any _ _ rs n w HGR.out HTW.out).mono ?_
    rw [HV.out]
    rintro e w1 ⟨A2, c2, rfl, hc2, o2, hb1⟩
    have HW1 := Lib.hid hb1
    have z1 := hb1.size
    have HO2 := Lib.hid o2
    clear hb1 o2
    go_wp2_with fail
    refine (specKnownAfter_any _ _ rs n w1 ((HGR.out.below HW1.out).more z1) (by omega) HTW.out).mono ?_
    rw [HV.out]
    rintro e w2 ⟨A3, c3, rfl, hc3, o3, hb2⟩
    have HW2 := Lib.hid (HW1.out.trans (hb2.mono z1))
    have z2 := hb2.size
    have HO22 := Lib.hid ((HO2.out.row.more (Nat.le_refl _)).below hb2)
    have HO3 := Lib.hid o3
    clear hb2 o3
    go_wp2_with fail
    refine (equalInts_any _ _ _ _ V V w2 (HO22.out.more (by omega)) (HO3.out.row.more (by omega)) (by omega)).mono ?_
    rw [HES.out]
    rintro e w3 ⟨rfl, n3, hw3⟩
    have e3 : Below w2.heap.size w2 w3 := by rw [hw3]; exact drewBelow _ _
    have z3 := e3.size
    have HW3 := Lib.hid (HW2.out.trans (e3.mono (by omega)))
    clear e3 hw3
    go_wp2_with fail
    refine (impKnownAfter_any _ _ rs n w3 ((HGR.out.below HW3.out).more HW3.out.size) HTW.out).mono ?_
    rw [HV.out]
    rintro e w4 ⟨A4, c4, rfl, hc4, o4, hb4⟩
    have HW4 := Lib.hid (HW3.out.trans (hb4.mono HW3.out.size))
    have z4 := hb4.size
    have HO4 := Lib.hid (o4.row.more (Nat.le_refl _))
    clear hb4 o4
    by_cases hv : callsB n rs = true
    · obtain ⟨m, rfl⟩ : ∃ m : Nat, n = m := ⟨n.toNat, by omega⟩
      have hcb := callsB_of hv
      have hm1 : 1 ≤ m := by omega
      have hm7 : m ≤ 7 := by omega
      have hVk : V = kn m rs := by rw [← HV.out]; unfold knL; rw [if_pos hv]; rfl
      have hVm : V.length = m := by rw [hVk, kn_len]
      have HT2 := Lib.hid (twoC_of hv)
      obtain ⟨L, hLe⟩ : ∃ L, kn m rs.reverse = L := ⟨_, rfl⟩
      have hLm : L.length = m := by rw [← hLe, kn_len]
      have HLV := Lib.hid (show knL (m : Int) rs.reverse = L by unfold knL; rw [if_pos (callsB_rev hv)]; exact hLe)
      have HBB := Lib.hid (show ∀ i k, i < m → k < m → ∃ x y r : Nat, V[i]? = some (x : Int) ∧ L[k]? = some (y : Int) ∧ x < 128 ∧ y < 128 ∧ x / 2 ^ k % 2 = r ∧ y / 2 ^ i % 2 = r from fun i k hi hk => by
        rw [hVk, ← hLe]; exact bits_back hm7 HT2.out hi hk)
      have tV0 : ((V.length : Int) == 0) = false := beq_eq_false_iff_ne.2 (by omega)
      have tm0 : ((m : Int) == 0) = false := beq_eq_false_iff_ne.2 (by omega)
      clear hVk hLe hcb hv hn0 hn8
      obtain ⟨hs, hgo, hga⟩ := HGR.out
      have HGO := Lib.hid hgo
      have HGA := Lib.hid hga
      have hsl : hs.length = rs.length := hga.1
      have hstart : (w4.alloc (.cells #[] 28)).ownsRow w4.heap.size 28 1 (.slice (some ⟨w4.heap.size, 0, none⟩) 0 0) 0 [] := World.ownsRow_lit w4 #[] 0 (Nat.le_refl _) (by simp [maxLen]) rfl
      have HST := Lib.hid (And.intro hstart (belR w4 (.cells #[] 28)))
      clear hgo hga hstart
      go_wp2_with fail
      go_loopw [6, 7] (fun v i wr => ∃ (k : Nat) (A : Option Addr) (c : Nat), k ≤ rs.length ∧ i = .int .i64 ((rs.length : Int) - 1 - k) ∧ v = .slice A k c ∧ wr.ownsRow w4.heap.size 28 1 (.slice A k c) k (hs.reverse.take k) ∧ Below w4.heap.size w4 wr) (fun _ i _ => (intOf i + 1).toNat)
      case atStart => exact ⟨0, _, _, by omega, by go_num, rfl, HST.out.1, HST.out.2⟩
      case round =>
        obtain ⟨k, A5, c5, hk, rfl, rfl, hown, hbr⟩ := hrel
        clear HST
        by_cases hlt : k < rs.length
        · obtain ⟨b, o, rfl, hb, hc⟩ := (((HGO.out.below HW4.out).more (Nat.le_trans HW4.out.size (Nat.le_refl _))).below hbr).open (by omega)
          obtain ⟨d, hd⟩ : ∃ d, rs.length - 1 - k = d := ⟨_, rfl⟩
          obtain ⟨Ai, ci, g1, g1b, g1c⟩ := HGA.out.2 d (by omega)
          clear g1b g1c
          obtain ⟨li, hli⟩ : ∃ l, rs[d]'(by omega) = l := ⟨_, rfl⟩
          rw [hli] at g1
          have hcell := hc d _ g1
          have hx : hs.reverse[k]? = some (.slice Ai li.length ci) := by rw [List.getElem?_reverse (by omega), hsl, hd]; exact g1
          have hidx : (rs.length : Int) - 1 - (k : Int) = (d : Int) := by omega
          rw [hidx]
          have hdl : d < rs.length := by omega
          have HX2 := Lib.hid hx
          have HD := Lib.hid hidx
          clear hc hx hd hidx g1 hli
          go_wp2_with (at_builtin; refine wpList_push rfl (.tmp 41) (.tmp 46) 23 rfl i0 (.slice none 0 0) 24 Try.underlying23 hi0 hz0 hz1 hz2 rfl (by decide) _ _ rfl hown [.slice Ai li.length ci] rfl rfl (by simp [Value.oneCell']) (by omega) (by omega) hbr.size ?_)
          intro A' c' w6 hown2 hg2
          have hbr2 := hbr.grown hg2 hbr.size (fun i hi => (hown.lt _ hi).1)
          have HO := Lib.hid (And.intro hown2 hbr2)
          clear hown hbr hg2 hcell hown2 hbr2
          go_wp2
          go_roundw
          case rel =>
            refine ⟨k + 1, A', c', by omega, by have := HD.out; exact congrArg (Value.int .i64) (by omega), rfl, ?_, HO.out.2⟩
            have e : hs.reverse.take (k + 1) = hs.reverse.take k ++ [.slice Ai li.length ci] := by
              rw [List.take_add_one, HX2.out]; rfl
            rw [e]
            exact HO.out.1
          case measure => simp [intOf]
        · have hk' : k = rs.length := by omega
          have HTR := Lib.hid (show ∀ r ∈ rs.reverse, r.length ≤ 1000000000 from fun r hr => HTW.out r (List.mem_reverse.1 hr))
          have HG5 := Lib.hid (show Grid wr 0 wr.heap.size A5 rs.reverse by
            rw [hk', List.take_of_length_le (by simp; omega)] at hown
            have ho := (own_of_rowS (by decide) hown).row
            exact ⟨_, ho, gridAt_rev (((HGA.out.below HW4.out).more HW4.out.size).below hbr |>.more hbr.size)⟩)
          have HBR := Lib.hid hbr
          have HKJ := Lib.hid (show Calls Try.prog 18 #[.int .i64 (m : Int), .slice A5 rs.length c5] wr (iRes wr L) by
            have h := impKnownAfter_any A5 c5 rs.reverse (m : Int) wr HG5.out HTR.out
            rw [List.length_reverse, HLV.out] at h; exact h)
          subst hk'
          clear hown hbr
          go_wp2_with fail
          refine HKJ.out.mono ?_
          rintro e w7 ⟨A7, c7, rfl, hc7, o7, hb7⟩
          have HOV := Lib.hid (((HO4.out.below HBR.out).more HBR.out.size).below hb7 |>.more hb7.size)
          have HOL := Lib.hid (o7.row.more (Nat.le_refl _))
          have HBW := Lib.hid (HB0.out.trans ((HW4.out.trans ((HBR.out.trans (hb7.mono HBR.out.size)).mono HW4.out.size)).mono z00))
          clear o7 hb7
          go_wp2_with fail
          go_loopw [9] (fun i wr => ∃ k : Nat, k ≤ m ∧ i = .int .i64 k ∧ ∃ z, wr = w7.drewN z) (fun i _ => m - (intOf i).toNat)
          case atStart => exact ⟨0, by omega, rfl, 0, rfl⟩
          case round =>
            obtain ⟨i, hi, rfl, z, rfl⟩ := hrel
            by_cases hil : i < m
            · have hiI : (i : Int) < (m : Int) := by omega
              go_wp2_with fail
              go_loopw [10] (fun v wr => ∃ k : Nat, k ≤ m ∧ v = .int .i64 k ∧ ∃ z, wr = w7.drewN z) (fun v _ => m - (intOf v).toNat)
              case atStart => exact ⟨0, by omega, rfl, _, rfl⟩
              case round =>
                obtain ⟨k, hk, rfl, z2, hz2'⟩ := hrel
                have HZ := Lib.hid hz2'
                have hbr : Below w7.heap.size w7 wr := by rw [hz2']; exact drewBelow _ _
                by_cases hkl : k < m
                · obtain ⟨b, o, rfl, hb, hc⟩ := (HOV.out.below hbr).open (by simp; omega)
                  obtain ⟨b', o', rfl, hb', hc'⟩ := (HOL.out.below hbr).open (by simp; omega)
                  obtain ⟨x, y, r, hx, hy, hx8, hy8, hr1, hr2⟩ := HBB.out i k hil hkl
                  have h1 : wr.cell? ⟨b, o + i, none⟩ = some (.int .i64 x) := hc i _ (by rw [List.getElem?_map, hx]; rfl)
                  have h2 : wr.cell? ⟨b', o' + k, none⟩ = some (.int .i64 y) := hc' k _ (by rw [List.getElem?_map, hy]; rfl)
                  have HB1 := Lib.hid (fun X => lbit_any x k r X (by omega) (by omega) hr1)
                  have HB2 := Lib.hid (fun X => lbit_any y i r X (by omega) (by omega) hr2)
                  have hkI : (k : Int) < (m : Int) := by omega
                  have hkV : (i : Int) < (V.length : Int) := by omega
                  have hkL : (k : Int) < (L.length : Int) := by omega
                  have hk0 : (0 : Int) ≤ (k : Int) := by omega
                  have hi0' : (0 : Int) ≤ (i : Int) := by omega
                  have e1 : ((r : Int) != (r : Int)) = false := by simp
                  clear hc hc' hx hy hr1 hr2 hbr hz2'
                  go_wp2
                  go_quiet ((first | (go_at_call 21; exact Calls.quiet_of ((HB1.out _).mono fun _ _ ⟨h1, h2⟩ => ⟨h1, 0, h2.symm⟩)) | (go_at_call 21; exact Calls.quiet_of ((HB2.out _).mono fun _ _ ⟨h1, h2⟩ => ⟨h1, 0, h2.symm⟩))))
                  go_wp2
                  go_roundw
                  case rel => exact ⟨k + 1, by omega, by go_num, by rw [HZ.out]; exact ⟨_, World.drewN_drewN ..⟩⟩
                  case measure => simp [intOf]; omega
                · have HZ2 := HZ
                  clear hbr hz2'
                  go_wp2
                  go_roundw
                  case rel => exact ⟨i + 1, by omega, by go_num, by rw [HZ2.out]; exact ⟨_, rfl⟩⟩
                  case measure => simp [intOf]; omega
            · have HE := Lib.hid (show Below v0.heap.size v0 (w7.drewN z) from HBW.out.trans ((drewBelow _ _).mono HBW.out.size))
              go_wp2
              go_ret
              exact ⟨rfl, HE.out⟩
    · have hV0 : V.length = 0 := by rw [← HV.out]; unfold knL; rw [if_neg hv]; rfl
      have tV0 : ((V.length : Int) == 0) = true := by simp [hV0]
      have HE := Lib.hid (HB0.out.trans (HW4.out.mono z00))
      clear hv hV0
      go_wp2
      go_ret
      exact ⟨rfl, HE.out⟩
  · go_enter Try.func8, Try.ntmps8
    go_wp2
    go_ret
    exact ⟨rfl, Below.refl _ _⟩
end Go.Proofs.Ytonnffilcmlodaa
