/- The runs of a row: contracts. No condition. -/
import Derived.Test.YtdgdlmpmoafkgaaS2
import Derived.Test.YtdgdlmpmoafkgaaS1
import Derived.Test.YtdgdlmpmoafkgaaT
namespace Go.Proofs.Ytdgdlmpmoafkgaa
open Go.RowKit

theorem pl_first {zs : List Int} {k : Nat} (hk : k < zs.length) (hno : ¬ zs[k] ∈ zs.take k) : pl zs zs[k] = k := by
  have h : zs.idxOf zs[k] = (zs.take k ++ zs[k] :: zs.drop (k + 1)).idxOf zs[k] := by
    rw [List.getElem_cons_drop, List.take_append_drop]
  unfold pl
  rw [h, List.idxOf_append, if_neg hno, List.idxOf_cons_self, List.length_take]
  omega

set_option maxRecDepth 100000 in
theorem specPlace_any (A : Option Addr) (c : Nat) (zs : List Int) (x : Int) (w : World) (hr : Ints w w.heap.size A zs) (hl : zs.length ≤ 1000000) (hx : x ∈ zs) :
    Calls Try.prog 59 #[.slice A zs.length c, .int .i64 x] w fun e w' => e = .returned (.int .i64 (pl zs x : Int)) ∧ w = w' := by
  have HX := Lib.hid hx
  clear hx
  go_enter Try.func59, Try.ntmps59
  go_wp2
  go_loop [5] (fun i => ∃ k : Nat, k ≤ zs.length ∧ i = .int .i64 k ∧ ¬ x ∈ zs.take k) (fun i => zs.length - (intOf i).toNat)
  case atStart => exact ⟨0, by omega, rfl, by simp⟩
  case round =>
    obtain ⟨k, hk, rfl, hno⟩ := hrel
    have HN := Lib.hid hno
    clear hno
    by_cases hlt : k < zs.length
    · obtain ⟨b, o, rfl, hb, hc⟩ := hr.open (by simp; omega)
      have hcell := ints_at hc hlt
      clear hc
      by_cases hzx : zs[k] = x
      · have hpl : pl zs x = k := by rw [← hzx]; exact pl_first hlt (by rw [hzx]; exact HN.out)
        have HP := Lib.hid hpl
        have ht : (zs[k] == x) = true := beq_iff_eq.2 hzx
        clear hpl hzx
        go_wp2
        go_ret
        exact ⟨ret_int (by rw [HP.out]), rfl⟩
      · have ht : (zs[k] == x) = false := beq_eq_false_iff_ne.2 hzx
        have HZ := Lib.hid hzx
        clear hzx
        go_wp2
        clear ht
        go_round
        case rel => exact ⟨k + 1, by omega, by go_num, by rw [List.take_succ_eq_append_getElem hlt, List.mem_append, List.mem_singleton]; rintro (h | h); exact HN.out h; exact HZ.out h.symm⟩
        case measure => simp [intOf]; omega
    · exact absurd HX.out (by have := HN.out; rwa [List.take_of_length_le (by omega)] at this)

set_option maxRecDepth 100000 in
set_option maxHeartbeats 1000000 in
theorem specRuns_any (A : Option Addr) (c : Nat) (zs : List Int) (w : World) (hr : Ints w w.heap.size A zs) (hv : rowB 9 zs = true) :
    Calls Try.prog 48 #[.slice A zs.length c] w fun e w' => ∃ A' c', e = .returned (.slice A' zs.length c') ∧ OwnInts w' w.heap.size w'.heap.size A' (runsL zs) ∧ Below w.heap.size w w' := by
  obtain ⟨i0, hi0, hz0, hz1, hz2⟩ := info_parts Try.info3
  have HV := Lib.hid hv
  have hl9 : zs.length ≤ 9 := rowB_len hv
  clear hv
  go_enter Try.func48, Try.ntmps48
  go_wp2_with (at_make; refine wpList_make_full _ rfl (.tmp 7) (.tmp 7) _ rfl w.heap.size 3 i0 (.int .i64 0) 1 Try.underlying22 hi0 hz0 hz1 _ _ _ _ _ rfl rfl rfl rfl (by rw [hz2]; omega) (by unfold maxLen; omega) (Nat.le_refl _) ?_)
  intro w1 hown hg
  have hb1 : Below w.heap.size w w1 := (Below.refl _ _).grown hg (Nat.le_refl _) (by simp)
  have hown' : w1.ownsRow w.heap.size 3 1 (.slice (some ⟨w.heap.size, 0, none⟩) zs.length zs.length) zs.length ((tab zs.length (fun j => if j < 1 then (runNo zs j : Int) else 0)).map (Value.int .i64)) := by
    have h1 := hown
    have h2 : (madeCells #[Value.int .i64 0] zs.length).toList = (tab zs.length (fun j => if j < 1 then (runNo zs j : Int) else 0)).map (Value.int .i64) := by
      rw [toList_madeCells_one]
      rw [show tab zs.length (fun j => if j < 1 then (runNo zs j : Int) else 0) = List.replicate zs.length 0 from by
        rw [tab_zero]; refine tab_congr fun k hk => ?_
        split
        · rw [show k = 0 by omega]; rfl
        · rfl]
      simp
    rw [h2] at h1
    exact h1
  clear hown hg
  go_wp2
  go_loopw [4, 5] (fun n i wr => ∃ k : Nat, 1 ≤ k ∧ k ≤ 10 ∧ i = .int .i64 k ∧ n = .int .i64 (runNo zs (k - 1)) ∧ wr.ownsRow w.heap.size 3 1 (.slice (some ⟨w.heap.size, 0, none⟩) zs.length zs.length) zs.length ((tab zs.length (fun j => if j < k then (runNo zs j : Int) else 0)).map (Value.int .i64)) ∧ Below w.heap.size w wr) (fun _ i _ => 10 - (intOf i).toNat)
  case atStart => exact ⟨1, by omega, by omega, rfl, rfl, hown', hb1⟩
  case round =>
    obtain ⟨k, hk1, hk, rfl, rfl, hown, hbr⟩ := hrel
    clear hown' hb1
    obtain ⟨d, rfl⟩ : ∃ d, k = d + 1 := ⟨k - 1, by omega⟩
    rw [Nat.add_sub_cancel]
    by_cases hlt : d + 1 < zs.length
    · have hm1 := row_mem HV.out hlt
      have hm0 := row_mem HV.out (show d < zs.length by omega)
      have hp1 := pl_lt HV.out hlt
      have hp0 := pl_lt HV.out (show d < zs.length by omega)
      have hrw := hr.below hbr
      have hP1 := specPlace_any A c zs ((d + 1 : Nat) : Int) wr (hrw.more hbr.size) (by omega) hm1
      have hP0 := specPlace_any A c zs (d : Int) wr (hrw.more hbr.size) (by omega) hm0
      have hrn : runNo zs (d + 1) = runNo zs d + if pl zs ((d + 1 : Nat) : Int) < pl zs (d : Int) then 1 else 0 := rfl
      obtain ⟨p1, hp1e⟩ : ∃ p, pl zs ((d + 1 : Nat) : Int) = p := ⟨_, rfl⟩
      obtain ⟨p0, hp0e⟩ : ∃ p, pl zs (d : Int) = p := ⟨_, rfl⟩
      have hle := runNo_le zs d
      rw [hp1e] at hP1 hp1 hrn
      rw [hp0e] at hP0 hp0 hrn
      obtain ⟨r, hre⟩ : ∃ r, runNo zs d = r := ⟨_, rfl⟩
      rw [hre] at hle hrn
      have hQ1 := fun (x : Int) (hx : x = (d : Int) + 1) => (show x = ((d + 1 : Nat) : Int) from by omega) ▸ hP1
      have hQ0 := fun (x : Int) (hx : x = (d : Int)) => hx ▸ hP0
      have HP1 := Lib.hid hQ1
      have HP0 := Lib.hid hQ0
      clear hQ1 hQ0
      have HRN := Lib.hid hrn
      have HRE := Lib.hid hre
      have hat := hown.cellAt (d + 1) (by omega)
      have hfr := hown.frozenAt (d + 1)
      rw [tab_vals_get hlt] at hat
      rw [if_neg (by omega)] at hat
      have HOWN := Lib.hid hown
      have HBR := Lib.hid hbr
      rw [hre]
      clear hm1 hm0 hP1 hP0 hrn hp1e hp0e hre hown hrw hbr hr
      by_cases hlt2 : p1 < p0
      · have hd1 : decide (p1 < p0) = true := decide_eq_true hlt2
        go_wp2_with (go_at_call 59; first | ((refine (HP1.out _ (by omega)).mono ?_); rintro e w' ⟨rfl, rfl⟩) | ((refine (HP0.out _ (by omega)).mono ?_); rintro e w' ⟨rfl, rfl⟩))
        clear hd1
        go_roundw
        case rel =>
          refine ⟨d + 2, by omega, by omega, by go_num, ?_, ?_, HBR.out.setCell (p := ⟨w.heap.size, d + 1, none⟩) (Nat.le_refl _) _⟩
          · rw [show d + 2 - 1 = d + 1 from rfl, HRN.out, if_pos hlt2]; go_num
          · have h := (HOWN.out.stored (d + 1) (.int .i64 ((r : Int) + 1))).1
            rw [← List.map_set, tab_set' (g := fun j => if j < d + 2 then (runNo zs j : Int) else 0)] at h
            · exact h
            · intro j hj
              by_cases e : j = d + 1
              · subst e; rw [if_pos (by omega), if_pos rfl, HRN.out, if_pos hlt2]; omega
              · rw [if_neg e]
                by_cases e2 : j < d + 1
                · rw [if_pos (by omega), if_pos e2]
                · rw [if_neg (by omega), if_neg e2]
        case measure => simp [intOf]; omega
      · have hd1 : decide (p1 < p0) = false := decide_eq_false hlt2
        go_wp2_with (go_at_call 59; first | ((refine (HP1.out _ (by omega)).mono ?_); rintro e w' ⟨rfl, rfl⟩) | ((refine (HP0.out _ (by omega)).mono ?_); rintro e w' ⟨rfl, rfl⟩))
        clear hd1
        go_roundw
        case rel =>
          refine ⟨d + 2, by omega, by omega, by go_num, ?_, ?_, HBR.out.setCell (p := ⟨w.heap.size, d + 1, none⟩) (Nat.le_refl _) _⟩
          · rw [show d + 2 - 1 = d + 1 from rfl, HRN.out, if_neg hlt2, Nat.add_zero]
          · have h := (HOWN.out.stored (d + 1) (.int .i64 (r : Int))).1
            rw [← List.map_set, tab_set' (g := fun j => if j < d + 2 then (runNo zs j : Int) else 0)] at h
            · exact h
            · intro j hj
              by_cases e : j = d + 1
              · subst e; rw [if_pos (by omega), if_pos rfl, HRN.out, if_neg hlt2, Nat.add_zero]
              · rw [if_neg e]
                by_cases e2 : j < d + 1
                · rw [if_pos (by omega), if_pos e2]
                · rw [if_neg (by omega), if_neg e2]
        case measure => simp [intOf]; omega
    · have he : tab zs.length (fun j => if j < d + 1 then (runNo zs j : Int) else 0) = runsL zs := by
        unfold runsL
        exact tab_congr fun j hj => if_pos (by omega)
      rw [he] at hown
      have HE := Lib.hid he
      clear he
      go_wp2
      go_ret
      obtain ⟨A', c', hv, _, ho⟩ := own_of_row hown
      simp only [Value.slice.injEq] at hv
      obtain ⟨rfl, _, rfl⟩ := hv
      exact ⟨_, _, rfl, ho, hbr⟩
end Go.Proofs.Ytdgdlmpmoafkgaa
