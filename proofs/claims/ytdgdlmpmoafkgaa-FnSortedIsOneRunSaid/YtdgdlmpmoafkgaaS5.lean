/- Runs: contracts of impl. No condition. -/
import Derived.Test.YtdgdlmpmoafkgaaS4
namespace Go.Proofs.Ytdgdlmpmoafkgaa
open Go.RowKit

theorem place_of {zs : List Int} (hv : rowB 9 zs = true) {k j : Nat} (hk : k < zs.length) (hj : j < zs.length) {y : Nat} (hy : zs[k] = (y : Int)) :
    (if pl zs (j : Int) < k + 1 then (pl zs (j : Int) : Int) else 0) = if j = y then (k : Int) else if pl zs (j : Int) < k then (pl zs (j : Int) : Int) else 0 := by
  by_cases e : j = y
  · subst e
    have := pl_at hv hk
    rw [hy] at this
    rw [if_pos rfl, this, if_pos (by omega)]
  · rw [if_neg e]
    have hne : pl zs (j : Int) ≠ k := by
      intro he
      have h := pl_get hv hj
      simp only [he] at h
      omega
    by_cases h1 : pl zs (j : Int) < k
    · rw [if_pos h1, if_pos (by omega)]
    · rw [if_neg h1, if_neg (by omega)]

theorem row_cell {wr : World} {base n c g : Nat} {f : Nat → Int} (hown : wr.ownsRow base 3 1 (.slice (some ⟨g, 0, none⟩) n c) n ((tab n f).map (Value.int .i64))) {k : Nat} (hk : k < n) :
    wr.cell? ⟨g, k, none⟩ = some (.int .i64 (f k)) := by
  have hat := hown.cellAt k (by omega)
  rw [tab_vals_get hk] at hat
  exact hat

set_option maxRecDepth 100000 in
set_option maxHeartbeats 1000000 in
theorem runOfLetters_any (A : Option Addr) (c : Nat) (zs : List Int) (w : World) (hr : Ints w w.heap.size A zs) (hv : rowB 9 zs = true) :
    Calls Try.prog 43 #[.slice A zs.length c] w fun e w' => ∃ A' c', e = .returned (.slice A' zs.length c') ∧ OwnInts w' w.heap.size w'.heap.size A' (runsL zs) ∧ Below w.heap.size w w' := by
  obtain ⟨i0, hi0, hz0, hz1, hz2⟩ := info_parts Try.info3
  have HV := Lib.hid hv
  have hl9 : zs.length ≤ 9 := rowB_len hv
  clear hv
  go_enter Try.func43, Try.ntmps43
  go_wp2_with (at_make; refine wpList_make_full _ rfl (.tmp 9) (.tmp 9) _ rfl w.heap.size 3 i0 (.int .i64 0) 1 Try.underlying22 hi0 hz0 hz1 _ _ _ _ _ rfl rfl rfl rfl (by rw [hz2]; omega) (by unfold maxLen; omega) (Nat.le_refl _) ?_)
  intro w1 hown hg
  have hb1 : Below w.heap.size w w1 := (Below.refl _ _).grown hg (Nat.le_refl _) (by simp)
  have hown' : w1.ownsRow w.heap.size 3 1 (.slice (some ⟨w.heap.size, 0, none⟩) zs.length zs.length) zs.length ((tab zs.length (fun j => if pl zs (j : Int) < 0 then (pl zs (j : Int) : Int) else 0)).map (Value.int .i64)) := by
    have h1 := hown
    have h2 : (madeCells #[Value.int .i64 0] zs.length).toList = (tab zs.length (fun j => if pl zs (j : Int) < 0 then (pl zs (j : Int) : Int) else 0)).map (Value.int .i64) := by
      rw [toList_madeCells_one, show tab zs.length (fun j => if pl zs (j : Int) < 0 then (pl zs (j : Int) : Int) else 0) = List.replicate zs.length 0 from by
        rw [tab_zero]; exact tab_congr fun k hk => if_neg (by omega)]
      simp
    rw [h2] at h1
    exact h1
  clear hown hg
  go_wp2
  go_loopw [13] (fun i wr => ∃ k : Nat, k ≤ zs.length ∧ i = .int .i64 k ∧ wr.ownsRow w.heap.size 3 1 (.slice (some ⟨w.heap.size, 0, none⟩) zs.length zs.length) zs.length ((tab zs.length (fun j => if pl zs (j : Int) < k then (pl zs (j : Int) : Int) else 0)).map (Value.int .i64)) ∧ Below w.heap.size w wr) (fun i _ => zs.length - (intOf i).toNat)
  case atStart => exact ⟨0, by omega, rfl, hown', hb1⟩
  case round =>
    obtain ⟨k, hk, rfl, hown, hbr⟩ := hrel
    clear hown' hb1
    by_cases hlt : k < zs.length
    · obtain ⟨b, o, rfl, hb, hc⟩ := (hr.below hbr).open (by simp; omega)
      have hcell := ints_at hc hlt
      have hin := (rowB_at HV.out hlt).1
      obtain ⟨y, hy⟩ : ∃ y : Nat, zs[k] = (y : Int) := ⟨zs[k].toNat, by omega⟩
      rw [hy] at hcell hin
      have hyl : y < zs.length := by omega
      have HY := Lib.hid hy
      have hat := row_cell hown hyl
      have hfr := hown.frozenAt y
      have HOWN := Lib.hid hown
      have HBR := Lib.hid hbr
      clear hc hy hown hbr hr hin
      go_wp2
      go_roundw
      case rel =>
        refine ⟨k + 1, by omega, by go_num, ?_, HBR.out.setCell (p := ⟨w.heap.size, y, none⟩) (Nat.le_refl _) _⟩
        have h := (HOWN.out.stored y (.int .i64 (k : Int))).1
        rw [← List.map_set, tab_set' (g := fun j => if pl zs (j : Int) < k + 1 then (pl zs (j : Int) : Int) else 0)] at h
        · exact h
        · intro j hj; exact place_of HV.out hlt hj HY.out
      case measure => simp [intOf]; omega
    · have hk' : k = zs.length := by omega
      subst hk'
      have he : tab zs.length (fun j => if pl zs (j : Int) < zs.length then (pl zs (j : Int) : Int) else 0) = tab zs.length (fun j => (pl zs (j : Int) : Int)) :=
        tab_congr fun j hj => if_pos (pl_lt HV.out hj)
      rw [he] at hown
      clear he
      obtain ⟨W, hW⟩ : ∃ W : World, W = wr := ⟨_, rfl⟩
      subst hW
      have hpls := fun j (hj : j < zs.length) => row_cell hown hj
      have HPLS := Lib.hid hpls
      clear hpls
      have hzW : w.heap.size < W.heap.size := by
        rcases hown.2 with ⟨h, _⟩ | ⟨g, _, _, h, _, hh, _⟩
        · cases h
        · simp only [Value.slice.injEq, Option.some.injEq, Addr.mk.injEq, and_true] at h
          obtain ⟨rfl, _⟩ := h
          rcases Nat.lt_or_ge w.heap.size W.heap.size with hlt | hge
          · exact hlt
          · rw [Array.getElem?_eq_none hge] at hh; cases hh
      clear hown
      go_wp2_with (at_make; refine wpList_make_full _ rfl (.tmp 24) (.tmp 24) _ rfl W.heap.size 3 i0 (.int .i64 0) 1 Try.underlying22 hi0 hz0 hz1 _ _ _ _ _ rfl rfl rfl rfl (by rw [hz2]; omega) (by unfold maxLen; omega) (Nat.le_refl _) ?_)
      intro w2 hown hg
      have hb2 : Below W.heap.size W w2 := (Below.refl _ _).grown hg (Nat.le_refl _) (by simp)
      have hown2 : w2.ownsRow W.heap.size 3 1 (.slice (some ⟨W.heap.size, 0, none⟩) zs.length zs.length) zs.length ((tab zs.length (fun j => if j < 1 then (runNo zs j : Int) else 0)).map (Value.int .i64)) := by
        have h1 := hown
        have h2 : (madeCells #[Value.int .i64 0] zs.length).toList = (tab zs.length (fun j => if j < 1 then (runNo zs j : Int) else 0)).map (Value.int .i64) := by
          rw [toList_madeCells_one]
          rw [show tab zs.length (fun j => if j < 1 then (runNo zs j : Int) else 0) = List.replicate zs.length 0 from by
            rw [tab_zero]; refine tab_congr fun k hk => ?_
            split
            · rw [show k = 0 by omega]; rfl
            · rfl]
          simp
        rw [h2] at h1
        exact h1
      clear hown hg
      go_wp2
      go_loopw [7] (fun i wr => ∃ k : Nat, 1 ≤ k ∧ k ≤ 10 ∧ i = .int .i64 k ∧ wr.ownsRow W.heap.size 3 1 (.slice (some ⟨W.heap.size, 0, none⟩) zs.length zs.length) zs.length ((tab zs.length (fun j => if j < k then (runNo zs j : Int) else 0)).map (Value.int .i64)) ∧ Below W.heap.size W wr) (fun i _ => 10 - (intOf i).toNat)
      case atStart => exact ⟨1, by omega, by omega, rfl, hown2, hb2⟩
      case round =>
        obtain ⟨k, hk1, hk, rfl, hown, hbs⟩ := hrel
        clear hown2 hb2
        obtain ⟨d, rfl⟩ : ∃ d, k = d + 1 := ⟨k - 1, by omega⟩
        by_cases hlt : d + 1 < zs.length
        · have hp1 := HPLS.out (d + 1) hlt
          have hp0 := HPLS.out d (by omega)
          rw [← hbs.cell (p := ⟨w.heap.size, d + 1, none⟩) hzW] at hp1
          rw [← hbs.cell (p := ⟨w.heap.size, d, none⟩) hzW] at hp0
          have hrn : runNo zs (d + 1) = runNo zs d + if pl zs ((d + 1 : Nat) : Int) < pl zs (d : Int) then 1 else 0 := rfl
          obtain ⟨p1, hp1e⟩ : ∃ p, pl zs ((d + 1 : Nat) : Int) = p := ⟨_, rfl⟩
          obtain ⟨p0, hp0e⟩ : ∃ p, pl zs (d : Int) = p := ⟨_, rfl⟩
          have hle := runNo_le zs d
          rw [hp1e] at hp1 hrn
          rw [hp0e] at hp0 hrn
          have hc1 := row_cell hown hlt
          have hc0 := row_cell hown (show d < zs.length by omega)
          rw [if_neg (by omega)] at hc1
          rw [if_pos (by omega)] at hc0
          obtain ⟨r, hre⟩ : ∃ r, runNo zs d = r := ⟨_, rfl⟩
          rw [hre] at hle hrn hc0
          have HRN := Lib.hid hrn
          have HRE := Lib.hid hre
          have hfr := hown.frozenAt (d + 1)
          have HOWN := Lib.hid hown
          have HBS := Lib.hid hbs
          have HBR := Lib.hid hbr
          have hne : W.heap.size ≠ w.heap.size := by omega
          clear hrn hp1e hp0e hre hown hbs hbr hr
          by_cases hlt2 : p1 < p0
          · have hd1 : decide (p1 < p0) = true := decide_eq_true hlt2
            go_wp2
            go_quiet (fail)
            go_wp2
            clear hd1
            go_roundw
            case rel =>
              refine ⟨d + 2, by omega, by omega, by go_num, ?_, (below_drewN (HBS.out.setCell (p := ⟨W.heap.size, d + 1, none⟩) (Nat.le_refl _) _) nq).setCell (p := ⟨W.heap.size, d + 1, none⟩) (Nat.le_refl _) _⟩
              have h := (HOWN.out.stored (d + 1) (.int .i64 (r : Int))).1
              have h2 : ((wr.setCell ⟨W.heap.size, d + 1, none⟩ (.int .i64 (r : Int))).drewN nq).ownsRow W.heap.size 3 1 _ _ _ := h
              have h3 := (h2.stored (d + 1) (.int .i64 ((r : Int) + 1))).1
              rw [← List.map_set, ← List.map_set, tab_set, tab_set' (g := fun j => if j < d + 2 then (runNo zs j : Int) else 0)] at h3
              · exact h3
              · intro j hj
                by_cases e : j = d + 1
                · subst e; rw [if_pos (by omega), if_pos rfl, HRN.out, if_pos hlt2]; omega
                · rw [if_neg e, if_neg e]
                  by_cases e2 : j < d + 1
                  · rw [if_pos (by omega), if_pos e2]
                  · rw [if_neg (by omega), if_neg e2]
            case measure => simp [intOf]; omega
          · have hd1 : decide (p1 < p0) = false := decide_eq_false hlt2
            go_wp2
            go_quiet (fail)
            go_wp2
            clear hd1
            go_roundw
            case rel =>
              refine ⟨d + 2, by omega, by omega, by go_num, ?_, below_drewN (HBS.out.setCell (p := ⟨W.heap.size, d + 1, none⟩) (Nat.le_refl _) _) nq⟩
              have h := (HOWN.out.stored (d + 1) (.int .i64 (r : Int))).1
              have h2 : ((wr.setCell ⟨W.heap.size, d + 1, none⟩ (.int .i64 (r : Int))).drewN nq).ownsRow W.heap.size 3 1 _ _ _ := h
              rw [← List.map_set, tab_set' (g := fun j => if j < d + 2 then (runNo zs j : Int) else 0)] at h2
              · exact h2
              · intro j hj
                by_cases e : j = d + 1
                · subst e; rw [if_pos (by omega), if_pos rfl, HRN.out, if_neg hlt2, Nat.add_zero]
                · rw [if_neg e]
                  by_cases e2 : j < d + 1
                  · rw [if_pos (by omega), if_pos e2]
                  · rw [if_neg (by omega), if_neg e2]
            case measure => simp [intOf]; omega
        · have he : tab zs.length (fun j => if j < d + 1 then (runNo zs j : Int) else 0) = runsL zs := by
            unfold runsL
            exact tab_congr fun j hj => if_pos (by omega)
          rw [he] at hown
          have HE := Lib.hid he
          clear he
          go_wp2
          go_ret
          obtain ⟨A', c', hv, _, ho⟩ := own_of_row hown
          simp only [Value.slice.injEq] at hv
          obtain ⟨rfl, _, rfl⟩ := hv
          exact ⟨_, _, rfl, ho.less (by omega), hbr.trans (hbs.mono hbr.size)⟩
end Go.Proofs.Ytdgdlmpmoafkgaa
