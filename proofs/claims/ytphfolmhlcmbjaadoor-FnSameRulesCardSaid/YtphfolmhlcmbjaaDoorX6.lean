/- The lists of all marks, both sides. No condition. -/
import Derived.Test.YtphfolmhlcmbjaaDoorX0
import Derived.Test.YtphfolmhlcmbjaaDoorX1
import Derived.Test.YtphfolmhlcmbjaaDoorDr
import Derived.Laws.Concat
namespace Go.Proofs.YtphfolmhlcmbjaaDoor
open Go.RowKit

theorem Tryd.info9 : (Tryd.prog.info? 9).map (fun i => (i.zero, i.size, i.bytes)) = some (some (.string ⟨#[]⟩), 1, 16) := by kernel_rfl
def strV (l : List ByteArray) : List Value := l.map Value.string
theorem strV_len (l : List ByteArray) : (strV l).length = l.length := by simp [strV]
theorem strV_ones (l : List ByteArray) : ∀ u ∈ strV l, u.oneCell' = true := fun u hu => by
  obtain ⟨z, _, rfl⟩ := List.mem_map.1 hu; rfl
theorem strs_at {w : World} {b o : Nat} {l : List ByteArray} (hc : ∀ j u, (strV l)[j]? = some u → w.cell? ⟨b, o + j, none⟩ = some u) {k : Nat} (hk : k < l.length) : w.cell? ⟨b, o + k, none⟩ = some (.string l[k]) :=
  hc k _ (by simp [strV, List.getElem?_eq_getElem hk])
theorem marks_first (w : World) : (w.alloc (.cells #[.string ⟨#[]⟩] 9)).ownsRow w.heap.size 9 1 (.slice (some ⟨w.heap.size, 0, none⟩) (2 * 0 + 1) 1) (2 * 0 + 1) (strV (marksT 0)) := by
  have := World.ownsRow_lit w #[Value.string ⟨#[]⟩] (e := 9) (size := 1) 1 (Nat.le_refl _) (by simp [maxLen]) rfl
  exact this
theorem strV_step {k : Nat} {s : ByteArray} (hs : (marksT k)[k]'(by rw [marks_len]; omega) = s) : strV (marksT (k + 1)) = strV (marksT k) ++ [.string (s ++ ⟨#[97]⟩), .string (s ++ ⟨#[98]⟩)] := by
  rw [marks_step k, strV, List.map_append, hs]; rfl
theorem own_rowS9 {w : World} {base : Nat} {n c : Nat} {A : Option Addr} {xs : List Value} (h : w.ownsRow base 9 1 (.slice A n c) n xs) : Own w (base + 1) w.heap.size A xs := by
  obtain ⟨A', c', hv, _, ho⟩ := own_of_row h
  simp only [Value.slice.injEq] at hv
  obtain ⟨rfl, _, rfl⟩ := hv
  exact ho
/-- All marks, in a row of the call's own. -/
def MarksPost (w : World) (e : Ending) (w' : World) : Prop := ∃ A c, e = .returned (.slice A 31 c) ∧ Own w' (w.heap.size + 1) w'.heap.size A (strV (marksT 15)) ∧ Below w.heap.size w w'

set_option maxRecDepth 100000 in
set_option maxHeartbeats 4000000 in
theorem allMarks_any (w : World) : Calls Tryd.prog 51 #[] w (MarksPost w) := by
  obtain ⟨i0, hi0, hz0, hz1, hz2⟩ := info_parts Tryd.info9
  have HS := Lib.hid (marks_first w)
  go_enter Tryd.func51, Tryd.ntmps51
  go_wp2
  go_loopw [1, 2] (fun v i wr => ∃ (k : Nat) (H : Option Addr) (cH : Nat), k ≤ 15 ∧ i = .int .i64 k ∧ v = .slice H (2 * k + 1) cH ∧ wr.ownsRow w.heap.size 9 1 (.slice H (2 * k + 1) cH) (2 * k + 1) (strV (marksT k)) ∧ Below w.heap.size w wr) (fun _ i _ => 15 - (intOf i).toNat)
  case atStart => exact ⟨0, _, 1, by omega, rfl, rfl, HS.out, (Below.refl _ _).alloc (Nat.le_refl _) _⟩
  case round =>
    obtain ⟨k, H, cH, hk, rfl, rfl, hown, hbr⟩ := hrel
    clear HS
    have HO := Lib.hid hown
    have HBR := Lib.hid hbr
    have hbz := hbr.size
    obtain ⟨g, rfl, hg1, hg2⟩ := own_some hown (by omega)
    have ho := own_rowS9 hown
    obtain ⟨b, o, e, hb, hcc⟩ := ho.open (by rw [strV_len, marks_len]; omega)
    have hcell := strs_at hcc (show k < (marksT k).length by rw [marks_len]; omega)
    have hsz : ((marksT k)[k]'(by rw [marks_len]; omega)).size = if k < 15 then ((marksT k)[k]'(by rw [marks_len]; omega)).size else 4 := by
      split
      · rfl
      · exact mark_four hk (by omega) (by omega)
    have hshort : k < 15 → ((marksT k)[k]'(by rw [marks_len]; omega)).size < 4 := fun h => mark_short hk (by omega) h
    have hfour : ¬ k < 15 → ((marksT k)[k]'(by rw [marks_len]; omega)).size = 4 := fun h => mark_four hk (by omega) (by omega)
    simp only [Option.some.injEq, Addr.mk.injEq, and_true] at e
    obtain ⟨rfl, rfl⟩ := e
    have HST := Lib.hid (fun s hs => strV_step (k := k) (s := s) hs)
    obtain ⟨s, hs⟩ : ∃ s, (marksT k)[k]'(by rw [marks_len]; omega) = s := ⟨_, rfl⟩
    rw [hs] at hcell hshort hfour
    have HS2 := Lib.hid (HST.out s hs)
    have hkI : (k : Int) < ((2 * k + 1 : Nat) : Int) := by omega
    have hkI2 : (k : Int) < 2 * (k : Int) + 1 := by omega
    have hk0 : (0 : Int) ≤ (k : Int) := by omega
    simp only [Nat.zero_add] at hcell
    clear hown hbr ho hcc hsz hs HST hb hg1
    by_cases hlt : k < 15
    · have hs4 := hshort hlt
      have hs4I : (s.size : Int) < 4 := by omega
      have hcat1 : ∀ W : World, (Op.stringOp .add s ⟨#[97]⟩).run Tryd.prog W = .ok (.string (s ++ ⟨#[97]⟩)) W := fun W => run_string_add_sum W s ⟨#[97]⟩ (by have : (⟨#[97]⟩ : ByteArray).size = 1 := rfl; omega)
      have hcat2 : ∀ W : World, (Op.stringOp .add s ⟨#[98]⟩).run Tryd.prog W = .ok (.string (s ++ ⟨#[98]⟩)) W := fun W => run_string_add_sum W s ⟨#[98]⟩ (by have : (⟨#[98]⟩ : ByteArray).size = 1 := rfl; omega)
      have hlen : 2 * k + 1 + 2 = 2 * (k + 1) + 1 := by omega
      have HLEN := Lib.hid hlen
      clear hshort hfour hlen
      go_wp2
      go_region_law (refine step_extend (w := (wr.drew.alloc (.cells #[.string (s ++ ⟨#[97]⟩), .string (s ++ ⟨#[98]⟩)] 9))) (by rfl) (.tmp 12) (.tmp 23) 35 (by rfl) i0 (.string ⟨#[]⟩) 16 Tryd.underlying35 hi0 hz0 hz1 hz2 rfl (by decide) _ _ (by rfl) (HO.out.drew.alloc _) _ _ _ _ [.string (s ++ ⟨#[97]⟩), .string (s ++ ⟨#[98]⟩)] (by rfl) (by simp) (own_new wr.drew #[.string (s ++ ⟨#[97]⟩), .string (s ++ ⟨#[98]⟩)] 9) (by simp [Value.oneCell']) (by omega) (by omega) (by simp; omega) ?_; intro A2 c2 w2 hown2 hg2)
      all_goals
        have hgw : wr.grownBy w2 (Value.slice (some ⟨g, 0, none⟩) (2 * k + 1) cH).ownBlock := grown_trans (g_alloc (g_drew (World.grownBy.refl wr _)) _) hg2
        have HW := Lib.hid (And.intro hown2 (HBR.out.grown hgw hbz (fun i hi => (HO.out.lt _ hi).1)))
        clear hown2 hg2 hgw
        go_wp2
        go_roundw
        case rel =>
          refine ⟨k + 1, A2, c2, by omega, by go_num, ?_, ?_, HW.out.2⟩
          · rw [← HLEN.out]
          · rw [← HLEN.out, HS2.out]; exact HW.out.1
        case measure => simp [intOf]; omega
    · have hk15 : k = 15 := by omega
      subst hk15
      have hs4 := hfour hlt
      have hs4I : ¬ (s.size : Int) < 4 := by omega
      clear hshort hfour
      go_wp2
      go_ret
      exact ⟨_, cH, rfl, own_rowS9 HO.out, HBR.out⟩

set_option maxRecDepth 100000 in
set_option maxHeartbeats 4000000 in
theorem specMarks_any (w : World) : Calls Tryd.prog 67 #[] w (MarksPost w) := by
  obtain ⟨i0, hi0, hz0, hz1, hz2⟩ := info_parts Tryd.info9
  have HS := Lib.hid (marks_first w)
  go_enter Tryd.func67, Tryd.ntmps67
  go_wp2
  go_loopw [1, 2] (fun v i wr => ∃ (j k : Nat) (H : Option Addr) (cH : Nat), k ≤ 15 ∧ j ≤ 31 ∧ k = kthV j ∧ i = .int .i64 j ∧ v = .slice H (2 * k + 1) cH ∧ wr.ownsRow w.heap.size 9 1 (.slice H (2 * k + 1) cH) (2 * k + 1) (strV (marksT k)) ∧ Below w.heap.size w wr) (fun _ i _ => 31 - (intOf i).toNat)
  case atStart => exact ⟨0, 0, _, 1, by omega, by omega, rfl, rfl, rfl, HS.out, (Below.refl _ _).alloc (Nat.le_refl _) _⟩
  case round =>
    obtain ⟨j, k, H, cH, hk, hj31, hkth, rfl, rfl, hown, hbr⟩ := hrel
    clear HS
    have HO := Lib.hid hown
    have HBR := Lib.hid hbr
    have hbz := hbr.size
    obtain ⟨g, rfl, hg1, hg2⟩ := own_some hown (by omega)
    have ho := own_rowS9 hown
    obtain ⟨b, o, e, hb, hcc⟩ := ho.open (by rw [strV_len, marks_len]; omega)
    simp only [Option.some.injEq, Addr.mk.injEq, and_true] at e
    obtain ⟨rfl, rfl⟩ := e
    have hj0 : (0 : Int) ≤ (j : Int) := by omega
    by_cases hlt : j < 15
    · have hkj : k = j := by rw [hkth, kthV, if_pos hlt]
      subst hkj
      clear hkth
      have hcell := strs_at hcc (show k < (marksT k).length by rw [marks_len]; omega)
      have hshort : ((marksT k)[k]'(by rw [marks_len]; omega)).size < 4 := mark_short hk (by omega) hlt
      have HST := Lib.hid (fun s hs => strV_step (k := k) (s := s) hs)
      obtain ⟨s, hs⟩ : ∃ s, (marksT k)[k]'(by rw [marks_len]; omega) = s := ⟨_, rfl⟩
      rw [hs] at hcell hshort
      have HS2 := Lib.hid (HST.out s hs)
      have hkI : (k : Int) < ((2 * k + 1 : Nat) : Int) := by omega
      have hkI2 : (k : Int) < 2 * (k : Int) + 1 := by omega
      simp only [Nat.zero_add] at hcell
      have hs4I : (s.size : Int) < 4 := by omega
      have hcat1 : ∀ W : World, (Op.stringOp .add s ⟨#[97]⟩).run Tryd.prog W = .ok (.string (s ++ ⟨#[97]⟩)) W := fun W => run_string_add_sum W s ⟨#[97]⟩ (by have : (⟨#[97]⟩ : ByteArray).size = 1 := rfl; omega)
      have hcat2 : ∀ W : World, (Op.stringOp .add s ⟨#[98]⟩).run Tryd.prog W = .ok (.string (s ++ ⟨#[98]⟩)) W := fun W => run_string_add_sum W s ⟨#[98]⟩ (by have : (⟨#[98]⟩ : ByteArray).size = 1 := rfl; omega)
      have HLEN := Lib.hid (show 2 * k + 1 + 2 = 2 * (k + 1) + 1 by omega)
      have HKT := Lib.hid (show k + 1 = kthV (k + 1) by unfold kthV; split <;> omega)
      clear hown hbr ho hcc hs HST hb hg1
      go_wp2
      go_region_law (refine step_extend (w := (wr.drew.alloc (.cells #[.string (s ++ ⟨#[97]⟩), .string (s ++ ⟨#[98]⟩)] 9))) (by rfl) (.tmp 16) (.tmp 27) 35 (by rfl) i0 (.string ⟨#[]⟩) 16 Tryd.underlying35 hi0 hz0 hz1 hz2 rfl (by decide) _ _ (by rfl) (HO.out.drew.alloc _) _ _ _ _ [.string (s ++ ⟨#[97]⟩), .string (s ++ ⟨#[98]⟩)] (by rfl) (by simp) (own_new wr.drew #[.string (s ++ ⟨#[97]⟩), .string (s ++ ⟨#[98]⟩)] 9) (by simp [Value.oneCell']) (by omega) (by omega) (by simp; omega) ?_; intro A2 c2 w2 hown2 hg2)
      all_goals
        have hgw : wr.grownBy w2 (Value.slice (some ⟨g, 0, none⟩) (2 * k + 1) cH).ownBlock := grown_trans (g_alloc (g_drew (World.grownBy.refl wr _)) _) hg2
        have HW := Lib.hid (And.intro hown2 (HBR.out.grown hgw hbz (fun i hi => (HO.out.lt _ hi).1)))
        clear hown2 hg2 hgw
        go_wp2
        go_roundw
        case rel =>
          refine ⟨k + 1, k + 1, A2, c2, by omega, by omega, HKT.out, by go_num, ?_, ?_, HW.out.2⟩
          · rw [← HLEN.out]
          · rw [← HLEN.out, HS2.out]; exact HW.out.1
        case measure => simp [intOf]; omega
    · have hk15 : k = 15 := by rw [hkth, kthV, if_neg hlt]
      subst hk15
      clear hkth
      by_cases hj : j < 31
      · have hcell := strs_at hcc (show j < (marksT 15).length by rw [marks_len]; omega)
        have hfour : ((marksT 15)[j]'(by rw [marks_len]; omega)).size = 4 := mark_four hk (by omega) (by omega)
        obtain ⟨s, hs⟩ : ∃ s, (marksT 15)[j]'(by rw [marks_len]; omega) = s := ⟨_, rfl⟩
        rw [hs] at hcell hfour
        simp only [Nat.zero_add] at hcell
        have hjI : (j : Int) < 31 := by omega
        have hjI2 : (j : Int) < ((2 * 15 + 1 : Nat) : Int) := by omega
        have hs4I : ¬ (s.size : Int) < 4 := by omega
        have HKT := Lib.hid (show 15 = kthV (j + 1) by unfold kthV; split <;> omega)
        clear hown hbr ho hcc hs hb hg1
        go_wp2
        go_roundw
        case rel => exact ⟨j + 1, 15, _, cH, by omega, by omega, HKT.out, by go_num, rfl, HO.out, HBR.out⟩
        case measure => simp [intOf]; omega
      · have hj' : j = 31 := by omega
        subst hj'
        clear hown hbr ho hcc hb hg1
        go_wp2
        go_ret
        exact ⟨_, cH, rfl, own_rowS9 HO.out, HBR.out⟩
end Go.Proofs.YtphfolmhlcmbjaaDoor
