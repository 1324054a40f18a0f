/- The walk of the law FnAnswersKeepOrder. No condition. -/
import Derived.Test.YtldbefmiabgkhaaTu
namespace Go.Proofs.Ytldbefmiabgkhaa
open Go.RowKit

theorem Try.infoB : (Try.prog.info? 4).map (fun i => (i.zero, i.size, i.bytes)) = some (some (.bool false), 1, 1) := by kernel_rfl
theorem first_litB (W : World) : (W.alloc (.cells #[] 4)).ownsRow W.heap.size 4 1 (.slice (some ⟨W.heap.size, 0, none⟩) 0 0) 0 [] := ⟨rfl, .inr ⟨W.heap.size, 0, #[], rfl, Nat.le_refl _, heap_alloc_new W _, Nat.le_refl _, by simp [maxLen], rfl, rfl⟩⟩
/-- Which of the first k are below a letter. -/
def belL (zs : List Int) (i k : Nat) : List Value := (List.range k).map (fun j => Value.bool (bel zs i j))
theorem belL_succ (zs : List Int) (i k : Nat) : belL zs i (k + 1) = belL zs i k ++ [Value.bool (bel zs i k)] := by simp [belL, List.range_succ]
theorem belL_len (zs : List Int) (i k : Nat) : (belL zs i k).length = k := by simp [belL]
theorem belL_get {zs : List Int} {i k j : Nat} (h : j < k) : (belL zs i k)[j]? = some (Value.bool (bel zs i j)) := by simp [belL, h]

set_option maxRecDepth 100000 in
set_option maxHeartbeats 8000000 in
theorem answersKeepOrder_law (A : Option Addr) (c : Nat) (zs : List Int) (w : World) (hr : Own w 0 w.heap.size A (zs.map (Value.int .u8))) (hx : zs.length ≤ c ∧ c ≤ maxLen ∧ ∀ z ∈ zs, (Lit.int .u8 z).wf = true) :
    Calls Try.prog 11 #[.slice A zs.length c] w fun e w' => e = .returned (.bool true) ∧ Below w.heap.size w w' := by
  have hl : zs.length ≤ 9223372036854775807 := by have := hx.1; have := hx.2.1; unfold maxLen at this; omega
  obtain ⟨i0, hi0, hz0, hz1, hz2⟩ := info_parts Try.infoB
  have HX := Lib.hid hx
  clear hx
  by_cases h20 : zs.length ≤ 1048576
  · go_enter Try.func11, Try.ntmps11
    go_wp2_with fail
    refine (drawReadOrder_any _ _ _ _ hr HX.out).mono ?_
    rintro e w1 ⟨B, d, qs, rfl, hq10, hdc, ho, hb1⟩
    have HO := Lib.hid ho
    have HB1 := Lib.hid hb1
    have s1 := hb1.size
    have hVl : (ordL qs).length ≤ 10 := by
      unfold ordL
      split
      · rename_i h; rw [ro_whole (ans_of h)]; exact hq10
      · simp
    obtain ⟨V, hV⟩ : ∃ V, ordL qs = V := ⟨_, rfl⟩
    have HV := Lib.hid hV
    have HI := Lib.hid (fun (X : World) (h : Ints X X.heap.size B qs) => impReadOrder_any B d qs X h (by omega))
    have HS := Lib.hid (fun (X : World) (h : Ints X X.heap.size B qs) => specReadOrder_any B d qs X h (by omega))
    rw [hV] at hVl HI HS
    clear hV hb1 hr ho
    go_wp2_with fail
    refine (HI.out _ HO.out).mono ?_
    rintro e w2 ⟨A2, c2, rfl, hc2, o2, hb2⟩
    have HB2 := Lib.hid hb2
    have O2 := Lib.hid o2
    have HO2 := Lib.hid (HO.out.past hb2)
    clear o2 hb2 hc2
    go_wp2_with fail
    refine (HS.out _ HO2.out).mono ?_
    rintro e w3 ⟨A3, c3, rfl, hc3, o3, hb3⟩
    have HB3 := Lib.hid hb3
    have O3 := Lib.hid (And.intro (O2.out.keep (Nat.le_refl _) hb3) o3)
    have HO3 := Lib.hid (HO2.out.past hb3)
    clear o3 hb3 hc3
    go_wp2_with fail
    refine (equalInts_on _ _ _ _ V w3 (O3.out.1.row.more HB3.out.size) O3.out.2.row (by omega)).mono ?_
    rintro e w4 ⟨rfl, hb4⟩
    have HB4 := Lib.hid (HB1.out.trans ((HB2.out.mono s1).trans ((HB3.out.mono (by have := HB2.out.size; omega)).trans (hb4.mono (by have := HB2.out.size; have := HB3.out.size; omega)))))
    have HO4 := Lib.hid (HO3.out.past hb4)
    clear hb4
    go_wp2_with fail
    refine (HI.out _ HO4.out).mono ?_
    rintro e w5 ⟨A5, c5, rfl, hc5, o5, hb5⟩
    have HB5 := Lib.hid (HB4.out.trans (hb5.mono HB4.out.size))
    have O5 := Lib.hid o5.row
    have HO5 := Lib.hid (HO4.out.past hb5)
    clear hc5 o5 hb5
    go_wp2_with fail
    go_loopw [5] (fun ii wr => ∃ i : Nat, i ≤ V.length ∧ ii = .int .i64 i ∧ Below w5.heap.size w5 wr) (fun ii _ => V.length - (intOf ii).toNat)
    case atStart => exact ⟨0, by omega, rfl, Below.refl _ _⟩
    case round =>
      obtain ⟨i, hi, rfl, hbr⟩ := hrel
      have HBR := Lib.hid hbr
      have hbz := hbr.size
      obtain ⟨W, hW⟩ : ∃ W : World, W = wr := ⟨_, rfl⟩
      subst hW
      by_cases hlt : i < V.length
      · have hv : ansB qs = true := by
          cases h : ansB qs with
          | true => rfl
          | false => 
            have h2 : V = [] := by rw [← HV.out, ordL_no h]
            rw [h2] at hlt; simp at hlt
        have HAN := Lib.hid (ans_of hv)
        have HVE := Lib.hid (show ro qs (-1) = V by rw [← HV.out, ordL_yes hv])
        have hVq : V.length = qs.length := by rw [← HVE.out, ro_whole HAN.out]
        have hiq : i < qs.length := by omega
        have HVQ := Lib.hid hVq
        have HST := Lib.hid (first_litB W)
        have hiI : (i : Int) < (V.length : Int) := by omega
        obtain ⟨bq, pq, rfl, hbq, hcq⟩ := HO5.out.open (by simp; omega)
        have HQC := Lib.hid (fun (X : World) (hX : Below w5.heap.size w5 X) (k : Nat) (hk : k < qs.length) => (hX.cell (p := ⟨bq, pq + k, none⟩) hbq).trans (ints_at hcq hk))
        rw [hVq] at hi hlt hiI ⊢
        clear hv hVq hbr hcq
        go_wp2_with fail
        go_loopw [6, 7, 8] (fun v nn kk wr => ∃ (k m cT : Nat) (H : Option Addr), k ≤ qs.length ∧ kk = .int .i64 k ∧ v = .slice H m cT ∧ m = k ∧ nn = .int .i64 (belC qs i k : Nat) ∧ wr.ownsRow W.heap.size 4 1 (.slice H m cT) m (belL qs i k) ∧ Below W.heap.size W wr) (fun _ _ kk _ => qs.length - (intOf kk).toNat)
        case atStart => exact ⟨0, 0, _, _, by omega, rfl, rfl, rfl, rfl, HST.out, (Below.refl _ _).alloc (Nat.le_refl _) _⟩
        case round =>
          clear HST
          obtain ⟨k, m, cT, H, hk, rfl, rfl, hm, rfl, hown, hb6⟩ := hrel
          have HOB := Lib.hid hown
          have HB6 := Lib.hid hb6
          have hz6 := hb6.size
          have HM := Lib.hid hm
          have hcb : belC qs i k ≤ k := by unfold belC; have := List.length_filter_le (bel qs i) (List.range k); simpa using this
          have HCS := Lib.hid (belC_succ qs i k)
          have HLS := Lib.hid (belL_succ qs i k)
          obtain ⟨C, hC⟩ : ∃ C, belC qs i k = C := ⟨_, rfl⟩
          rw [hC] at hcb HCS ⊢
          have HCC := Lib.hid hC
          clear hC
          by_cases hlk : k < qs.length
          · have hcell := HQC.out wr (HBR.out.trans (hb6.mono hbz)) k hlk
            have HBS := Lib.hid (bel_step HAN.out (i := i) hlk)
            have HZ := Lib.hid (getD_get hlk)
            have hhi := HAN.out.hi k hlk
            have hlo := HAN.out.lo k hlk
            obtain ⟨z, hz⟩ : ∃ z, qs[k] = z := ⟨_, rfl⟩
            rw [hz] at hcell HZ
            rw [HZ.out] at hhi hlo HBS
            have hkI : (k : Int) < (qs.length : Int) := by omega
            clear hz
            by_cases hki : k = i
            · have tki : ((k : Int) == (i : Int)) = true := by simp [hki]
              have hbv : bel qs i k = true := by rw [HBS.out, decide_eq_true hki]; rfl
              clear hki hcell
              have HB := Lib.hid (show bel qs i k = true from hbv)
              have HCN := Lib.hid (show belC qs i (k + 1) = C + 1 by rw [HCS.out, HB.out]; rfl)
              clear hbv hown hb6 hm
              go_wp2_with (at_builtin; refine wpList_push rfl (.tmp 57) (.tmp 59) 42 rfl i0 (.bool false) 1 Try.underlying42 hi0 hz0 hz1 hz2 rfl (by decide) _ _ rfl HOB.out [.bool true] rfl rfl (by simp [Value.oneCell']) (by have := HM.out; omega) (by omega) hz6 ?_)
              intro H' c' w7 hown7 hg7
              have HW := Lib.hid (And.intro hown7 (HB6.out.grown hg7 hz6 (fun i hi => (HOB.out.lt _ hi).1)))
              clear hown7 hg7
              go_wp2
              go_roundw
              case rel => exact ⟨k + 1, m + 1, c', H', by omega, by go_num, rfl, by rw [HM.out], by rw [HCN.out]; go_num, by rw [HLS.out, HB.out]; exact HW.out.1, HW.out.2⟩
              case measure => simp [intOf]; omega
            · have tki : ((k : Int) == (i : Int)) = false := by rw [beq_eq_false_iff_ne]; omega
              by_cases hz0 : 0 ≤ z
              · obtain ⟨j, rfl⟩ : ∃ j : Nat, z = j := ⟨z.toNat, by omega⟩
                have tz : decide ((0 : Int) ≤ (j : Int)) = true := decide_eq_true hz0
                have hjm : (j : Int) < (m : Int) := by omega
                obtain ⟨gb, rfl, _, _⟩ := own_some hown (by omega)
                have hcj := hown.cellAt j (by omega)
                rw [belL_get (by omega)] at hcj
                have HBJ := Lib.hid (show bel qs i k = bel qs i j by rw [HBS.out, decide_eq_false hki, decide_eq_true hz0]; simp)
                cases hbj : bel qs i j with
                | true =>
                  rw [hbj] at hcj
                  have hbv : bel qs i k = true := by rw [HBJ.out, hbj]
                  clear hki hz0 hbj
                  have HB := Lib.hid (show bel qs i k = true from hbv)
                  have HCN := Lib.hid (show belC qs i (k + 1) = C + 1 by rw [HCS.out, HB.out]; rfl)
                  clear hbv hown hb6 hm
                  go_wp2_with (at_builtin; refine wpList_push rfl (.tmp 57) (.tmp 59) 42 rfl i0 (.bool false) 1 Try.underlying42 hi0 hz0 hz1 hz2 rfl (by decide) _ _ rfl HOB.out [.bool true] rfl rfl (by simp [Value.oneCell']) (by have := HM.out; omega) (by omega) hz6 ?_)
                  intro H' c' w7 hown7 hg7
                  have HW := Lib.hid (And.intro hown7 (HB6.out.grown hg7 hz6 (fun i hi => (HOB.out.lt _ hi).1)))
                  clear hown7 hg7
                  go_wp2
                  go_roundw
                  case rel => exact ⟨k + 1, m + 1, c', H', by omega, by go_num, rfl, by rw [HM.out], by rw [HCN.out]; go_num, by rw [HLS.out, HB.out]; exact HW.out.1, HW.out.2⟩
                  case measure => simp [intOf]; omega
                | false =>
                  rw [hbj] at hcj
                  have hbv : bel qs i k = false := by rw [HBJ.out, hbj]
                  clear hki hz0 hbj
                  have HB := Lib.hid (show bel qs i k = false from hbv)
                  have HCN := Lib.hid (show belC qs i (k + 1) = C by rw [HCS.out, HB.out]; rfl)
                  clear hbv hown hb6 hm
                  go_wp2_with (at_builtin; refine wpList_push rfl (.tmp 57) (.tmp 59) 42 rfl i0 (.bool false) 1 Try.underlying42 hi0 hz0 hz1 hz2 rfl (by decide) _ _ rfl HOB.out [.bool false] rfl rfl (by simp [Value.oneCell']) (by have := HM.out; omega) (by omega) hz6 ?_)
                  intro H' c' w7 hown7 hg7
                  have HW := Lib.hid (And.intro hown7 (HB6.out.grown hg7 hz6 (fun i hi => (HOB.out.lt _ hi).1)))
                  clear hown7 hg7
                  go_wp2
                  go_roundw
                  case rel => exact ⟨k + 1, m + 1, c', H', by omega, by go_num, rfl, by rw [HM.out], by rw [HCN.out], by rw [HLS.out, HB.out]; exact HW.out.1, HW.out.2⟩
                  case measure => simp [intOf]; omega
              · have tz : decide ((0 : Int) ≤ z) = false := decide_eq_false hz0
                have hbv : bel qs i k = false := by rw [HBS.out, decide_eq_false hki, decide_eq_false hz0]; rfl
                clear hki hz0
                have HB := Lib.hid (show bel qs i k = false from hbv)
                have HCN := Lib.hid (show belC qs i (k + 1) = C by rw [HCS.out, HB.out]; rfl)
                clear hbv hown hb6 hm
                go_wp2_with (at_builtin; refine wpList_push rfl (.tmp 57) (.tmp 59) 42 rfl i0 (.bool false) 1 Try.underlying42 hi0 hz0 hz1 hz2 rfl (by decide) _ _ rfl HOB.out [.bool false] rfl rfl (by simp [Value.oneCell']) (by have := HM.out; omega) (by omega) hz6 ?_)
                intro H' c' w7 hown7 hg7
                have HW := Lib.hid (And.intro hown7 (HB6.out.grown hg7 hz6 (fun i hi => (HOB.out.lt _ hi).1)))
                clear hown7 hg7
                go_wp2
                go_roundw
                case rel => exact ⟨k + 1, m + 1, c', H', by omega, by go_num, rfl, by rw [HM.out], by rw [HCN.out], by rw [HLS.out, HB.out]; exact HW.out.1, HW.out.2⟩
                case measure => simp [intOf]; omega
          · have hke : k = qs.length := by omega
            subst hke
            have HST2 := Lib.hid (ro_stands HAN.out hiq)
            obtain ⟨K, hK1, hK2, hK3, hK4⟩ := HST2.out
            rw [HVE.out] at hK2 hK3 hK4
            have HK4 := Lib.hid hK4
            have hC1 : 1 ≤ belC qs i qs.length := by rw [belC_all HAN.out hiq]; omega
            rw [HCC.out] at hK1 hC1 HK4
            have HPL := Lib.hid (lawPlace_at A5 c5 V (i : Int) wr ((O5.out.below (HBR.out.trans (hb6.mono hbz))).more (by have := HBR.out.size; have := hb6.size; omega)) (by omega) K (by have := HVQ.out; omega) hK2 hK3)
            rw [HVQ.out] at HPL
            obtain ⟨bv, pv, rfl, hbv, hcv⟩ := O5.out.open (by simp; have := HVQ.out; omega)
            have HVC := Lib.hid (fun (X : World) (hX : Below w5.heap.size w5 X) (k : Nat) (hk : k < V.length) => (hX.cell (p := ⟨bv, pv + k, none⟩) hbv).trans (ints_at hcv hk))
            obtain ⟨gb, rfl, hgb1, hgb2⟩ := own_some hown (by omega)
            have HBC := Lib.hid (fun (k : Nat) (hk : k < qs.length) => by
              have h1 := hown.cellAt k (by omega)
              rw [belL_get hk] at h1; exact h1)
            have HBW := Lib.hid (HBR.out.trans (hb6.mono hbz))
            have HM2 := Lib.hid hm
            obtain ⟨WX, hWX⟩ : ∃ X : World, X = wr := ⟨_, rfl⟩
            subst hWX
            clear hK2 hK3 hK4 hcv hown hb6 hm HST2
            go_wp2_with fail
            refine HPL.out.mono ?_
            rintro e w8 ⟨rfl, rfl⟩
            have HBW2 := Lib.hid HBW.out
            have HBC2 := Lib.hid HBC.out
            go_wp2_with fail
            go_loopw [11] (fun xx wr' => ∃ j : Nat, j ≤ C ∧ xx = .int .i64 ((K + j : Nat) : Int) ∧ wr' = WX) (fun xx _ => K + C - (intOf xx).toNat)
            case atStart => exact ⟨0, by omega, rfl, rfl⟩
            case round =>
              obtain ⟨j, hj, rfl, rfl⟩ := hrel
              by_cases hlj : j < C
              · obtain ⟨v, hv1, hv2, hv3⟩ := HK4.out (K + j) (by omega) (by omega)
                have x1 := HVC.out _ HBW2.out (K + j) (by have := HVQ.out; omega)
                rw [← getD_get (by have := HVQ.out; omega), hv2] at x1
                have x2 := HBC2.out v hv1
                rw [hv3] at x2
                have hvm : (v : Int) < (m : Int) := by have := HM2.out; omega
                have hxI : ((K + j : Nat) : Int) < (qs.length : Int) := by omega
                have hlt1 : decide (((K + j : Nat) : Int) < (K : Int) + (C : Int)) = true := decide_eq_true (by omega)
                obtain ⟨X, hX⟩ : ∃ X : Nat, K + j = X := ⟨_, rfl⟩
                rw [hX] at x1 hxI hlt1 ⊢
                have HXX := Lib.hid hX
                have hXw : IntKind.i64.wrap ((K : Int) + (C : Int)) = (K : Int) + (C : Int) := IntWalk.i64_in _ (by omega)
                clear hv2 hv3 hX
                go_wp2_with fail
                go_roundw
                case rel => exact ⟨j + 1, by omega, by rw [← HXX.out]; go_num, trivial⟩
                case measure => have := HXX.out; simp [intOf]; omega
              · have hje : j = C := by omega
                subst hje
                have hlt1 : decide (((K + j : Nat) : Int) < (K : Int) + (j : Int)) = false := decide_eq_false (by omega)
                obtain ⟨X, hX⟩ : ∃ X : Nat, K + j = X := ⟨_, rfl⟩
                rw [hX] at hlt1 ⊢
                have hXw : IntKind.i64.wrap ((K : Int) + (j : Int)) = (K : Int) + (j : Int) := IntWalk.i64_in _ (by omega)
                clear hX
                go_wp2_with fail
                go_roundw
                case rel => exact ⟨i + 1, by omega, by go_num, HBW2.out⟩
                case measure => simp [intOf]; omega
      · have hie : i = V.length := by omega
        subst hie
        clear hbr
        go_wp2_with fail
        go_ret
        exact ⟨rfl, HB5.out.trans (HBR.out.mono HB5.out.size)⟩
  · go_enter Try.func11, Try.ntmps11
    go_wp2
    go_ret
    exact ⟨rfl, Below.refl _ _⟩
end Go.Proofs.Ytldbefmiabgkhaa
