/- Hops that are drawn. No condition. -/
import Derived.Test.YtonnffilcmlodabVs
import Derived.Test.YtonnffilcmlodabRd2
import Derived.Test.YtonnffilcmlodabBp
namespace Go.Proofs.Ytonnffilcmlodab
open Go.RowKit

/-- What is drawn. -/
def DrH (w : World) (A : Option Addr) (c : Nat) (zs : List Int) (w' : World) : Prop :=
  zs.length ≤ 6 ∧ zs.length ≤ c ∧ (∀ z ∈ zs, -1 ≤ z ∧ z ≤ 11) ∧ Ints w' w'.heap.size A zs ∧ Below w.heap.size w w'

set_option maxRecDepth 100000 in
set_option maxHeartbeats 4000000 in
theorem drawArriveChance_any (A : Option Addr) (c : Nat) (zs : List Int) (w : World) (hr : Own w 0 w.heap.size A (zs.map (Value.int .u8))) (hx : zs.length ≤ c ∧ c ≤ maxLen ∧ ∀ z ∈ zs, (Lit.int .u8 z).wf = true) :
    Calls Try.prog 8 #[.slice A zs.length c] w fun e w' => ∃ (A : Option Addr) (c : Nat) (zs : List Int), e = .returned (.slice A zs.length c) ∧ DrH w A c zs w' := by
  have H := Lib.hid hx
  clear hx
  go_enter Try.func8, Try.ntmps8
  go_wp2_with fail
  refine (newReader_any _ _ _ _ hr H.out).mono ?_
  rintro e w1 ⟨rfl, hrd, hb1⟩
  have hz1 := hb1.size
  have hgl := hrd.lt
  go_wp2_with fail
  refine (one_lit _ _ w1 hrd (by omega) [3, 2, 4, 5, 1, 0, 6] (by decide) (by decide) 7 rfl _ rfl).mono ?_
  rintro e w2 ⟨n, rfl, hn, hrd2, hg2⟩
  have hn6 : 0 ≤ n ∧ n ≤ 6 := by simp at hn; omega
  obtain ⟨hn0, hn1⟩ := hn6
  clear hn hrd
  go_wp2_with fail
  refine (one_lit _ _ w2 hrd2 (by omega) [4, 10, 1] (by decide) (by decide) 3 rfl _ rfl).mono ?_
  rintro e w3 ⟨j, rfl, hj, hrd3, hg3⟩
  have hj10 : 1 ≤ j ∧ j ≤ 10 := by simp at hj; omega
  obtain ⟨hj1, hj2⟩ := hj10
  have HG3 := Lib.hid (grown_trans hg2 hg3)
  clear hj hrd2 hg2 hg3
  go_wp2_with fail
  refine (listOf_cap _ _ n 0 j w3 hrd3 (by omega) (by omega) (by omega) (by omega) (by omega)).mono ?_
  rintro e w4 ⟨A4, c4, ys, rfl, hc4, hl4, hall, ho4, hrd4, hg4⟩
  have hy6 : ys.length ≤ 6 := by omega
  have hz13 : w1.heap.size ≤ w3.heap.size := HG3.out.size
  have HALL := Lib.hid (fun z hz => show (-1 : Int) ≤ z ∧ z ≤ 11 by have := hall z hz; omega)
  have HG4 := Lib.hid (grown_trans HG3.out hg4)
  have hg13 : w.heap.size < w3.heap.size := by omega
  clear hall hl4 hg4 hrd3
  by_cases hpos : 0 < ys.length
  · have hposI : (0 : Int) < (ys.length : Int) := by omega
    have hd0 : decide ((0 : Int) < (ys.length : Int)) = true := decide_eq_true hposI
    have hd0n : decide (0 < ys.length) = true := decide_eq_true hpos
    go_wp2_with fail
    refine (pick_any _ _ 30 _ hrd4 (by omega) (by omega)).mono ?_
    rintro e w5 ⟨k, rfl, _, hrd5, hg5⟩
    have ho5 := (ho4.apart (Nat.le_refl _) hg5 (fun i hi => by injection hi with hi; omega)).more hg5.size
    have HG5 := Lib.hid (grown_trans HG4.out hg5)
    clear ho4 hg5 hd0 hd0n hrd4
    by_cases hk : k = 0
    · have hk0 : (k == 0) = true := by simp [hk]
      clear hk
      go_wp2_with fail
      refine (one_lit _ _ w5 hrd5 (by omega) [-1, 11] (by decide) (by decide) 2 rfl _ rfl).mono ?_
      rintro e w6 ⟨x, rfl, hx, hrd6, hg6⟩
      have hxb : -1 ≤ x ∧ x ≤ 11 := by simp at hx; omega
      have ho6 := (ho5.apart (Nat.le_trans (by simp) (show w5.heap.size ≤ w5.heap.size from Nat.le_refl _)) hg6 (fun i hi => by injection hi with hi; omega)).more hg6.size
      obtain ⟨b, o, rfl, hbb, hbl, hcc, hff⟩ := ho6.open' (by omega) (by simp; omega)
      have hc0 := hcc 0 _ (List.getElem?_eq_getElem (by simp; omega))
      have hf0 := hff o
      generalize (ys.map (Value.int .i64))[0]'_ = y0 at hc0
      rw [Nat.add_zero] at hc0
      have hset := ho6.set 0 (.int .i64 x)
      rw [← List.map_set, Nat.add_zero] at hset
      have HSET := Lib.hid hset
      have HF := Lib.hid (show Below w.heap.size w (w6.setCell ⟨b, o, none⟩ (.int .i64 x)) from (hb1.grown (grown_trans HG5.out hg6) hz1 (fun i hi => by injection hi with hi; omega)).setCell (p := ⟨b, o, none⟩) (by show w.heap.size ≤ b; omega) (.int .i64 x))
      have HXB := Lib.hid hxb
      clear hx hcc hff hset ho6 ho5 hg6 hrd6 hrd5 hxb
      go_wp2_with fail
      go_ret
      refine ⟨_, c4, ys.set 0 x, by rw [List.length_set]; rfl, by rw [List.length_set]; exact hy6, by rw [List.length_set]; exact hc4, fun z hz => ?_, HSET.out.row.more (by simp [World.setCell]), HF.out⟩
      rcases List.mem_or_eq_of_mem_set hz with h | h
      · exact HALL.out z h
      · rw [h]; exact HXB.out
    · have hk0 : (k == 0) = false := by simp [hk]
      clear hk
      go_wp2_with fail
      go_ret
      exact ⟨A4, c4, ys, rfl, hy6, hc4, HALL.out, ho5.row, hb1.grown HG5.out hz1 (fun i hi => by injection hi with hi; omega)⟩
  · have hd0 : decide ((0 : Int) < (ys.length : Int)) = false := decide_eq_false (by omega)
    have hd0n : decide (0 < ys.length) = false := decide_eq_false hpos
    go_wp2_with fail
    go_ret
    exact ⟨A4, c4, ys, rfl, hy6, hc4, HALL.out, ho4.row, hb1.grown HG4.out hz1 (fun i hi => by injection hi with hi; omega)⟩

set_option maxRecDepth 100000 in
set_option maxHeartbeats 4000000 in
theorem drawLostAt_any (A : Option Addr) (c : Nat) (zs : List Int) (w : World) (hr : Own w 0 w.heap.size A (zs.map (Value.int .u8))) (hx : zs.length ≤ c ∧ c ≤ maxLen ∧ ∀ z ∈ zs, (Lit.int .u8 z).wf = true) :
    Calls Try.prog 13 #[.slice A zs.length c] w fun e w' => ∃ (A : Option Addr) (c : Nat) (zs : List Int), e = .returned (.slice A zs.length c) ∧ DrH w A c zs w' := by
  have H := Lib.hid hx
  clear hx
  go_enter Try.func13, Try.ntmps13
  go_wp2_with fail
  refine (newReader_any _ _ _ _ hr H.out).mono ?_
  rintro e w1 ⟨rfl, hrd, hb1⟩
  have hz1 := hb1.size
  have hgl := hrd.lt
  go_wp2_with fail
  refine (one_lit _ _ w1 hrd (by omega) [3, 2, 4, 5, 1, 0, 6] (by decide) (by decide) 7 rfl _ rfl).mono ?_
  rintro e w2 ⟨n, rfl, hn, hrd2, hg2⟩
  have hn6 : 0 ≤ n ∧ n ≤ 6 := by simp at hn; omega
  obtain ⟨hn0, hn1⟩ := hn6
  clear hn hrd
  go_wp2_with fail
  refine (one_lit _ _ w2 hrd2 (by omega) [4, 10, 1] (by decide) (by decide) 3 rfl _ rfl).mono ?_
  rintro e w3 ⟨j, rfl, hj, hrd3, hg3⟩
  have hj10 : 1 ≤ j ∧ j ≤ 10 := by simp at hj; omega
  obtain ⟨hj1, hj2⟩ := hj10
  have HG3 := Lib.hid (grown_trans hg2 hg3)
  clear hj hrd2 hg2 hg3
  go_wp2_with fail
  refine (listOf_cap _ _ n 0 j w3 hrd3 (by omega) (by omega) (by omega) (by omega) (by omega)).mono ?_
  rintro e w4 ⟨A4, c4, ys, rfl, hc4, hl4, hall, ho4, hrd4, hg4⟩
  have hy6 : ys.length ≤ 6 := by omega
  have hz13 : w1.heap.size ≤ w3.heap.size := HG3.out.size
  have HALL := Lib.hid (fun z hz => show (-1 : Int) ≤ z ∧ z ≤ 11 by have := hall z hz; omega)
  have HG4 := Lib.hid (grown_trans HG3.out hg4)
  have hg13 : w.heap.size < w3.heap.size := by omega
  clear hall hl4 hg4 hrd3
  by_cases hpos : 0 < ys.length
  · have hposI : (0 : Int) < (ys.length : Int) := by omega
    have hd0 : decide ((0 : Int) < (ys.length : Int)) = true := decide_eq_true hposI
    have hd0n : decide (0 < ys.length) = true := decide_eq_true hpos
    go_wp2_with fail
    refine (pick_any _ _ 30 _ hrd4 (by omega) (by omega)).mono ?_
    rintro e w5 ⟨k, rfl, _, hrd5, hg5⟩
    have ho5 := (ho4.apart (Nat.le_refl _) hg5 (fun i hi => by injection hi with hi; omega)).more hg5.size
    have HG5 := Lib.hid (grown_trans HG4.out hg5)
    clear ho4 hg5 hd0 hd0n hrd4
    by_cases hk : k = 0
    · have hk0 : (k == 0) = true := by simp [hk]
      clear hk
      go_wp2_with fail
      refine (one_lit _ _ w5 hrd5 (by omega) [-1, 11] (by decide) (by decide) 2 rfl _ rfl).mono ?_
      rintro e w6 ⟨x, rfl, hx, hrd6, hg6⟩
      have hxb : -1 ≤ x ∧ x ≤ 11 := by simp at hx; omega
      have ho6 := (ho5.apart (Nat.le_trans (by simp) (show w5.heap.size ≤ w5.heap.size from Nat.le_refl _)) hg6 (fun i hi => by injection hi with hi; omega)).more hg6.size
      obtain ⟨b, o, rfl, hbb, hbl, hcc, hff⟩ := ho6.open' (by omega) (by simp; omega)
      have hc0 := hcc 0 _ (List.getElem?_eq_getElem (by simp; omega))
      have hf0 := hff o
      generalize (ys.map (Value.int .i64))[0]'_ = y0 at hc0
      rw [Nat.add_zero] at hc0
      have hset := ho6.set 0 (.int .i64 x)
      rw [← List.map_set, Nat.add_zero] at hset
      have HSET := Lib.hid hset
      have HF := Lib.hid (show Below w.heap.size w (w6.setCell ⟨b, o, none⟩ (.int .i64 x)) from (hb1.grown (grown_trans HG5.out hg6) hz1 (fun i hi => by injection hi with hi; omega)).setCell (p := ⟨b, o, none⟩) (by show w.heap.size ≤ b; omega) (.int .i64 x))
      have HXB := Lib.hid hxb
      clear hx hcc hff hset ho6 ho5 hg6 hrd6 hrd5 hxb
      go_wp2_with fail
      go_ret
      refine ⟨_, c4, ys.set 0 x, by rw [List.length_set]; rfl, by rw [List.length_set]; exact hy6, by rw [List.length_set]; exact hc4, fun z hz => ?_, HSET.out.row.more (by simp [World.setCell]), HF.out⟩
      rcases List.mem_or_eq_of_mem_set hz with h | h
      · exact HALL.out z h
      · rw [h]; exact HXB.out
    · have hk0 : (k == 0) = false := by simp [hk]
      clear hk
      go_wp2_with fail
      go_ret
      exact ⟨A4, c4, ys, rfl, hy6, hc4, HALL.out, ho5.row, hb1.grown HG5.out hz1 (fun i hi => by injection hi with hi; omega)⟩
  · have hd0 : decide ((0 : Int) < (ys.length : Int)) = false := decide_eq_false (by omega)
    have hd0n : decide (0 < ys.length) = false := decide_eq_false hpos
    go_wp2_with fail
    go_ret
    exact ⟨A4, c4, ys, rfl, hy6, hc4, HALL.out, ho4.row, hb1.grown HG4.out hz1 (fun i hi => by injection hi with hi; omega)⟩
end Go.Proofs.Ytonnffilcmlodab
