/- The walk of the law FnCheckOf: its loop. No condition. -/
import Derived.Test.YtfcbenmhakobpaaL2
namespace Go.Proofs.Ytfcbenmhakobpaa
open Go.RowKit

set_option maxRecDepth 100000 in
set_option maxHeartbeats 8000000 in
theorem FnCheckOf_law (A : Option Addr) (c : Nat) (zs : List Int) (w : World) (hr : Own w 0 w.heap.size A (zs.map (Value.int .u8))) (hx : zs.length ≤ c ∧ c ≤ maxLen ∧ ∀ z ∈ zs, (Lit.int .u8 z).wf = true) :
    Calls Try.prog 3 #[.slice A zs.length c] w fun e w' => e = .returned (.bool true) ∧ Below w.heap.size w w' := by
  have hl : zs.length ≤ 9223372036854775807 := by have := hx.1; have := hx.2.1; unfold maxLen at this; omega
  have HX := Lib.hid hx
  clear hx
  obtain ⟨i0, hi0, hz0, hz1, hz2⟩ := info_parts Try.info3
  by_cases h20 : zs.length ≤ 1048576
  · go_enter Try.func3, Try.ntmps3
    go_wp2_with fail
    refine (drawCheckOf_any _ _ _ _ hr HX.out).mono ?_
    rintro e w1 ⟨B, d, ds, rfl, h4, hds, ho, hb1⟩
    have HDS := Lib.hid hds
    clear hds
    by_cases hv : validD ds = true
    · obtain ⟨v, hF⟩ : ∃ v, checkF ds = v := ⟨_, rfl⟩
      have hv0 : 0 ≤ v ∧ v ≤ 10 := by rw [← hF]; simp only [checkF, hv, if_true]; omega
      have hlen : ds.length = 4 := by simp only [validD, Bool.and_eq_true, beq_iff_eq] at hv; exact hv.2
      have HF := Lib.hid hF
      have HV := Lib.hid hv
      have hge : 4 ≤ ds.length := by omega
      clear hF hv hlen
      go_wp2_with fail
      refine (impCheckOf_any _ _ _ _ ho).mono ?_
      rintro e w2 ⟨rfl, hb2⟩
      rw [HF.out]
      have ho2 := ho.past hb2
      have hb12 := hb1.trans (hb2.mono hb1.size)
      clear ho hb1 hb2
      go_wp2_with fail
      refine (specCheckOf_any _ _ _ _ ho2 (by omega)).mono ?_
      rintro e w3 ⟨rfl, rfl⟩
      rw [HF.out]
      have hne : (v != v) = false := by simp
      go_wp2_with fail
      go_loopw [5] (fun i wr => ∃ k : Nat, k ≤ ds.length ∧ i = .int .i64 k ∧ Own wr 0 wr.heap.size B (ds.map (Value.int .i64)) ∧ Below w.heap.size w wr) (fun i _ => ds.length - (intOf i).toNat)
      case atStart => exact ⟨0, by omega, rfl, ho2, hb12⟩
      case round =>
        obtain ⟨k, hk, rfl, hor, hbr⟩ := hrel
        clear ho2 hb12
        by_cases hlt : k < ds.length
        · obtain ⟨b, o, rfl, hbb, hc⟩ := hor.open (by simp; omega)
          have hcell := ints_at hc hlt
          have hdk := digit_of HV.out hlt
          have hch := change_one HV.out hlt
          have HC := Lib.hid hch.1
          have hu : (((ds[k] + 1 + (k : Int)) % 10 : Int) != ds[k]) = true := by simpa using hch.2
          clear hch hc
          have hown0 : (wr.alloc (.cells #[] 3)).ownsRow wr.heap.size 3 1 (.slice (some ⟨wr.heap.size, 0, none⟩) 0 0) 0 [] := World.ownsRow_lit wr #[] 0 (Nat.le_refl _) (by simp [maxLen]) rfl
          have hor0 := hor.below (Below.alloc (Below.refl _ _) (Nat.le_refl _) (.cells #[] 3))
          go_wp2_with (at_builtin; refine wpList_extend rfl (.tmp 33) (.tmp 34) 23 rfl i0 (.int .i64 0) 8 Try.underlying23 hi0 hz0 hz1 hz2 rfl (by decide) _ _ rfl hown0 _ ds.length _ _ _ rfl (by simp) hor0 (ints_oneCell _ _) (by omega) (by omega) (by simp) ?_)
          intro A' c' w4 hown4 hg4
          obtain ⟨g, rfl, hg1, hg2⟩ := own_some hown4 (by omega)
          have hb4 : Below wr.heap.size wr w4 := ((Below.refl _ _).alloc (Nat.le_refl _) _).grown hg4 (by simp) (fun i hi => by simp [Value.ownBlock] at hi; omega)
          have hcell4 := (hb4.cell (p := ⟨b, o + k, none⟩) hbb).trans hcell
          have hat := hown4.cellAt k (by omega)
          rw [List.getElem?_map, List.getElem?_eq_getElem hlt] at hat
          have hat' : w4.cell? ⟨g, k, none⟩ = some (.int .i64 ds[k]) := hat
          have hfr := hown4.frozenAt k
          have hst := (hown4.stored k (.int .i64 ((ds[k] + 1 + (k : Int)) % 10))).1
          rw [← List.map_set] at hst
          have HST := Lib.hid hst
          have hgb : g ≠ b := by omega
          have hb5 := (hbr.trans (hb4.mono hbr.size)).setCell (p := ⟨g, k, none⟩) (by have := hbr.size; simp; omega) (.int .i64 ((ds[k] + 1 + (k : Int)) % 10))
          have hor5 := hor.past (hb4.setCell (p := ⟨g, k, none⟩) hg1 (.int .i64 ((ds[k] + 1 + (k : Int)) % 10)))
          clear hat hown4 hg4 hown0 hor0 hst hcell hb4 hor hbr
          obtain ⟨x, hx⟩ : ∃ x, (ds[k] + 1 + (k : Int)) % 10 = x := ⟨_, rfl⟩
          rw [hx] at hu hb5 hor5 HST HC
          obtain ⟨v2, hv2⟩ : ∃ v2, checkF (ds.set k x) = v2 := ⟨_, rfl⟩
          rw [hv2] at HC
          have hvv : (v2 == v) = false := by rw [← HF.out]; exact beq_eq_false_iff_ne.2 HC.out
          obtain ⟨W, hW⟩ : ∃ W, w4.setCell ⟨g, k, none⟩ (.int .i64 x) = W := ⟨_, rfl⟩
          have hWg : W.cell? ⟨g, k, none⟩ = some (.int .i64 x) := by rw [← hW]; exact World.cell?_setCell_same w4 _ _ hat'
          have hWb : W.cell? ⟨b, o + k, none⟩ = some (.int .i64 ds[k]) := by rw [← hW, World.cell?_setCell_other w4 _ _ _ (by intro e; injection e with e1 _; omega)]; exact hcell4
          rw [hW] at hb5 hor5 HST
          have hcall : ∀ n, Calls Try.prog 9 #[.slice (some ⟨g, 0, none⟩) ds.length c'] (W.drewN n) fun e w' => e = .returned (.int .i64 v2) ∧ Below W.heap.size W w' := by
            intro n
            obtain ⟨A1, c1, e1, e2, ho1⟩ := own_of_row HST.out
            simp only [Value.slice.injEq] at e1
            obtain ⟨rfl, _, rfl⟩ := e1
            have := impCheckOf_any (some ⟨g, 0, none⟩) c' (ds.set k x) (W.drewN n) ((ho1.row).below (below_drewN (Below.refl _ _) n))
            rw [List.length_set, hv2] at this
            exact this.mono fun e w' h => ⟨h.1, (below_drewN (Below.refl _ _) n).trans h.2⟩
          have HCALL := Lib.hid hcall
          have HXX := Lib.hid hx
          clear hcall hv2 HC hx
          go_wp2_with fail
          rw [HXX.out, hW]
          go_region_with (go_at_call 9; refine (HCALL.out _).mono ?_; rintro e w6 ⟨rfl, hb6⟩)
          all_goals
            have hor6 := hor5.past hb6
            have hb7 := hb5.trans (hb6.mono hb5.size)
            clear hb5 hor5 hWg hWb hat' hcell4 hfr hu hvv HST HXX HCALL hW
            go_simp
            by_cases hk0 : k = 0
            · subst hk0
              go_wp2_with fail
              go_quiet (fail)
              go_wp2_with fail
              go_wp2
              go_roundw
              case rel => exact ⟨1, by omega, by go_num, hor6, below_drewN hb7 _⟩
              case measure => simp [intOf]; omega
            · obtain ⟨j, rfl⟩ : ∃ j, k = j + 1 := ⟨k - 1, by omega⟩
              have hz : decide ((0 : Int) < ((j + 1 : Nat) : Int)) = true := by simp
              obtain ⟨b', o', e', hbb6, hc6⟩ := hor6.open (by simp; omega)
              simp only [Option.some.injEq, Addr.mk.injEq, and_true] at e'
              obtain ⟨rfl, rfl⟩ := e'
              have hcj := ints_at hc6 (show j < ds.length by omega)
              have hcj1 := ints_at hc6 hlt
              clear hc6 hk0
              go_wp2_with fail
              go_quiet (fail)
              have hownt : ((w6.alloc (.cells #[] 3)).drewN nq).ownsRow w6.heap.size 3 1 (.slice (some ⟨w6.heap.size, 0, none⟩) 0 0) 0 [] := World.ownsRow_lit w6 #[] 0 (Nat.le_refl _) (by simp [maxLen]) rfl
              have hbt : Below w6.heap.size w6 ((w6.alloc (.cells #[] 3)).drewN nq) := below_drewN ((Below.refl _ _).alloc (Nat.le_refl _) _) nq
              have hort := hor6.below hbt
              by_cases hsw : ds[j + 1] = ds[j]
              · have hs : (ds[j + 1] != ds[j]) = false := by simpa using hsw
                clear hsw
                go_wp2
                go_roundw
                case rel => exact ⟨j + 1 + 1, by omega, by go_num, hor6, below_drewN hb7 _⟩
                case measure => simp [intOf]; omega
              · have hs : (ds[j + 1] != ds[j]) = true := by simpa using hsw
                have hsn := swap_one HV.out hlt hsw
                obtain ⟨v3, hv3⟩ : ∃ v3, checkF ((ds.set (j + 1) ds[j]).set j ds[j + 1]) = v3 := ⟨_, rfl⟩
                rw [hv3, HF.out] at hsn
                have hvv3 : (v3 == v) = false := beq_eq_false_iff_ne.2 hsn
                have HV3 := Lib.hid hv3
                clear hsw hsn hv3
                go_wp2_with (at_builtin; refine wpList_extend rfl (.tmp 76) (.tmp 77) 23 rfl i0 (.int .i64 0) 8 Try.underlying23 hi0 hz0 hz1 hz2 rfl (by decide) _ _ rfl hownt _ ds.length _ _ _ rfl (by simp) hort (ints_oneCell _ _) (by omega) (by omega) (by have := hbt.size; exact this) ?_)
                intro A9 c9 w9 hown9 hg9
                obtain ⟨g9, rfl, hg91, hg92⟩ := own_some hown9 (by omega)
                have hb9 : Below w6.heap.size w6 w9 := hbt.grown hg9 hbt.size (fun i hi => by simp [Value.ownBlock] at hi; omega)
                have e1 := (hb9.cell (p := ⟨b, o + j, none⟩) hbb6).trans hcj
                have e2 := (hb9.cell (p := ⟨b, o + (j + 1), none⟩) hbb6).trans hcj1
                have f1 := hown9.cellAt j (by omega)
                rw [List.getElem?_map, List.getElem?_eq_getElem (show j < ds.length by omega)] at f1
                have f1' : w9.cell? ⟨g9, j, none⟩ = some (.int .i64 ds[j]) := f1
                have f2 := hown9.cellAt (j + 1) (by omega)
                rw [List.getElem?_map, List.getElem?_eq_getElem hlt] at f2
                have f2' : w9.cell? ⟨g9, j + 1, none⟩ = some (.int .i64 ds[j + 1]) := f2
                have q1 := hown9.frozenAt j
                have q2 := hown9.frozenAt (j + 1)
                have hst := ((hown9.stored (j + 1) (.int .i64 ds[j])).1.stored j (.int .i64 ds[j + 1])).1
                rw [← List.map_set, ← List.map_set] at hst
                have HST := Lib.hid hst
                have hgb9 : g9 ≠ b := by omega
                have hb10 : Below w6.heap.size w6 ((w9.setCell ⟨g9, j + 1, none⟩ (.int .i64 ds[j])).setCell ⟨g9, j, none⟩ (.int .i64 ds[j + 1])) := (hb9.setCell (p := ⟨g9, j + 1, none⟩) hg91 _).setCell (p := ⟨g9, j, none⟩) hg91 _
                clear f1 f2 hst hown9 hg9 hownt hort hbt hb9
                go_wp2_with fail
                obtain ⟨A1, c1, e1', e2', ho1⟩ := own_of_row HST.out
                simp only [Value.slice.injEq] at e1'
                obtain ⟨rfl, _, rfl⟩ := e1'
                have hc := impCheckOf_any (some ⟨g9, 0, none⟩) c9 ((ds.set (j + 1) ds[j]).set j ds[j + 1]) _ ho1.row
                rw [List.length_set, List.length_set, HV3.out] at hc
                refine hc.mono ?_
                rintro e w11 ⟨rfl, hb11⟩
                have hbz := hb10.size
                have hor11 := (hor6.past hb10).past hb11
                have hbf := (hb7.trans (hb10.mono hb7.size)).trans (hb11.mono (Nat.le_trans hb7.size hbz))
                clear hc HST ho1 hb10 hb11 e1 e2 f1' f2' q1 q2 hbz hcj hcj1
                go_wp2
                go_roundw
                case rel => exact ⟨j + 1 + 1, by omega, by go_num, hor11, hbf⟩
                case measure => simp [intOf]; omega
        · have hk' : k = ds.length := by omega
          subst hk'
          go_wp2
          go_ret
          exact ⟨rfl, hbr⟩
    · have hv' : validD ds = false := by simpa using hv
      have hF : checkF ds = -1 := by simp [checkF, hv']
      have HF := Lib.hid hF
      clear hF hv hv'
      go_wp2_with fail
      refine (impCheckOf_any _ _ _ _ ho).mono ?_
      rintro e w2 ⟨rfl, hb2⟩
      rw [HF.out]
      go_wp2_with fail
      refine (specCheckOf_any _ _ _ _ (ho.past hb2) (by omega)).mono ?_
      rintro e w3 ⟨rfl, rfl⟩
      rw [HF.out]
      go_wp2_with fail
      refine (specCheckOf_any _ _ _ _ (ho.past hb2) (by omega)).mono ?_
      rintro e w3 ⟨rfl, rfl⟩
      rw [HF.out]
      go_wp2_with fail
      go_ret
      exact ⟨rfl, hb1.trans (hb2.mono hb1.size)⟩
  · go_enter Try.func3, Try.ntmps3
    go_wp2
    go_ret
    exact ⟨rfl, Below.refl _ _⟩
end Go.Proofs.Ytfcbenmhakobpaa
