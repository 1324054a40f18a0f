/- Stacks behind a pointer: bears, put, makeRoomFor; impl.oneForEach. No condition. -/
import Derived.Test.YtdgdlmpmoafkgaaI5
import Derived.Test.YtdgdlmpmoafkgaaEx
import Derived.WalkSmall
import Derived.Deep.QuietTactic
import Derived.StillTailTactics
namespace Go.Proofs.Ytdgdlmpmoafkgaa
open Go.RowKit

/-- The cell s of block g alone was written, and block r, and new ones. -/
structure StW (w w' : World) (g s : Nat) (r : Option Nat) : Prop where
  os : w'.os = w.os
  tape : w'.tape = w.tape
  output : w'.output = w.output
  size : w.heap.size ≤ w'.heap.size
  block : ∀ i, i < w.heap.size → i ≠ g → some i ≠ r → w'.heap[i]? = w.heap[i]?
  cell : ∀ j, j ≠ s → w'.cell? ⟨g, j, none⟩ = w.cell? ⟨g, j, none⟩
  frozen : ∀ j, w'.frozen? ⟨g, j, none⟩ = w.frozen? ⟨g, j, none⟩

theorem StW.refl (w : World) (g s : Nat) (r : Option Nat) : StW w w g s r := ⟨rfl, rfl, rfl, Nat.le_refl _, fun _ _ _ _ => rfl, fun _ _ => rfl, fun _ => rfl⟩
theorem StW.trans {w w1 w2 : World} {g s : Nat} {r r' : Option Nat} (h : StW w w1 g s r) (k : StW w1 w2 g s r') (hr : r' = r ∨ ∀ i, r' = some i → w.heap.size ≤ i) : StW w w2 g s r :=
  ⟨k.os.trans h.os, k.tape.trans h.tape, k.output.trans h.output, Nat.le_trans h.size k.size, fun i hi h1 h2 => (k.block i (Nat.lt_of_lt_of_le hi h.size) h1 (fun e => by
    rcases hr with hr | hr
    · exact h2 (e.trans hr)
    · have := hr i e.symm; omega)).trans (h.block i hi h1 h2), fun j hj => (k.cell j hj).trans (h.cell j hj), fun j => (k.frozen j).trans (h.frozen j)⟩
theorem StW.of_grown {w w' : World} {g s : Nat} {r : Option Nat} (h : w.grownBy w' r) (hg : g < w.heap.size) (hr : r ≠ some g) : StW w w' g s r :=
  ⟨h.os, h.tape, h.output, h.size, fun i hi _ h2 => h.block i hi h2, fun j _ => World.cell?_of_block (a := ⟨g, j, none⟩) (h.block g hg (fun e => hr e.symm)), fun j => World.frozen?_of_block (a := ⟨g, j, none⟩) (h.block g hg (fun e => hr e.symm))⟩
theorem StW.setCell (w : World) (g s : Nat) (u : Value) : StW w (w.setCell ⟨g, s, none⟩ u) g s none :=
  ⟨rfl, rfl, rfl, by simp, fun i _ h1 _ => Below.heap_setCell w _ _ i h1, fun j hj => World.cell?_setCell_other w _ _ _ (by intro e; injection e with _ e2; exact hj e2.symm), fun j => World.frozen?_setCell ..⟩
theorem StW.drewN {w w' : World} {g s : Nat} {r : Option Nat} (h : StW w w' g s r) (n : Nat) : StW w (w'.drewN n) g s r := ⟨h.os, h.tape, h.output, h.size, h.block, h.cell, h.frozen⟩
theorem StW.below {w w' : World} {g s B : Nat} {r : Option Nat} (h : StW w w' g s r) (hB : B ≤ g) (hw : B ≤ w.heap.size) (hr : ∀ i, r = some i → B ≤ i) : Below B w w' :=
  ⟨h.os, h.tape, h.output, h.size, fun i hi => h.block i (by omega) (by omega) (fun e => by have := hr i e.symm; omega)⟩
theorem StW.kept {w w' : World} {g s base n : Nat} {e : TypeId} {v : Value} {size : Nat} {xs : List Value} {r : Option Nat} (h : StW w w' g s r) (ho : w.ownsRow base e size v n xs) (hg : g < base) (hr : ∀ i, v.ownBlock = some i → r ≠ some i) : w'.ownsRow base e size v n xs := by
  refine ⟨ho.1, ?_⟩
  rcases ho.2 with hn | ⟨k, cap, cur, rfl, hb, hgg, rest⟩
  · exact .inl hn
  · refine .inr ⟨k, cap, cur, rfl, hb, ?_, rest⟩
    rw [h.block k (Array.getElem?_eq_some_iff.1 hgg).1 (by omega) (fun e => hr k rfl e.symm)]
    exact hgg

theorem last_cell {w : World} {base : Nat} {A : Option Addr} {n c : Nat} {xs : List Int} (h : w.ownsRow base 3 1 (.slice A n c) n (xs.map (Value.int .i64))) {d : Nat} (hd : n = d + 1) : ∃ b, A = some ⟨b, 0, none⟩ ∧ w.cell? ⟨b, d, none⟩ = some (.int .i64 (xs.getD d 0)) ∧ d < n ∧ n ≤ c := by
  obtain ⟨b, rfl, _, _⟩ := own_some h (by omega)
  refine ⟨b, rfl, ?_, by omega, own_cap h⟩
  have hl := h.1
  simp only [List.length_map, Nat.mul_one] at hl
  rw [h.cellAt d (by omega), List.getElem?_map, List.getElem?_eq_getElem (by omega), getD_get (by omega)]
  rfl

theorem bears_nil (x : Int) : bearsB [] x = true := rfl

set_option maxRecDepth 100000 in
set_option maxHeartbeats 2000000 in
theorem bears_any (g s base : Nat) (A : Option Addr) (n c : Nat) (xs : List Int) (x : Int) (w : World) (hcell : w.cell? ⟨g, s, none⟩ = some (.slice A n c)) (hn : n = xs.length) (hown : w.ownsRow base 3 1 (.slice A n c) n (xs.map (Value.int .i64))) (hl : n ≤ 1000) :
    Calls Try.prog 61 #[.pointer (some ⟨g, s, none⟩), .int .i64 x] w fun e w' => e = .returned (.bool (bearsB xs x)) ∧ ∃ m, w' = w.drewN m := by
  by_cases h0 : n = 0
  · have hx : xs = [] := List.eq_nil_of_length_eq_zero (by omega)
    subst hx
    have ht : ((n : Int) == 0) = true := beq_iff_eq.2 (by omega)
    rw [bears_nil]
    clear hown h0 hn
    go_enter Try.func61, Try.ntmps61
    go_wp2
    go_quiet (fail)
    go_simp
    go_wp2
    go_ret
    exact ⟨rfl, _, rfl⟩
  · obtain ⟨d, hd⟩ : ∃ d, n = d + 1 := ⟨n - 1, by omega⟩
    obtain ⟨b, rfl, hc1, hdn, hnc⟩ := last_cell hown hd
    have ht : ((n : Int) == 0) = false := beq_eq_false_iff_ne.2 (by omega)
    have hi : (n : Int) - 1 = (d : Int) := by omega
    have hw : IntKind.i64.wrap ((n : Int) - 1) = (d : Int) := by rw [hi]; exact IntWalk.i64_in _ (by omega)
    have hdI : (d : Int) < (n : Int) := by omega
    have hd0 : (0 : Int) ≤ (d : Int) := by omega
    have HB := Lib.hid (show bearsB xs x = decide (x < xs.getD d 0) by unfold bearsB; rw [show decide (xs.length = 0) = false from decide_eq_false (by omega), show xs.length - 1 = d by omega]; rfl)
    obtain ⟨t, hte⟩ : ∃ t, xs.getD d 0 = t := ⟨_, rfl⟩
    rw [hte] at hc1 HB
    clear hown h0 hn hd hte hi
    by_cases hlt : x < t
    · have hdd : decide (x < t) = true := decide_eq_true hlt
      clear hlt
      go_enter Try.func61, Try.ntmps61
      go_wp2
      go_quiet (fail)
      go_simp
      go_wp2
      go_ret
      exact ⟨ret_bool (by rw [HB.out, hdd]), _, rfl⟩
    · have hdd : decide (x < t) = false := decide_eq_false hlt
      clear hlt
      go_enter Try.func61, Try.ntmps61
      go_wp2
      go_quiet (fail)
      go_simp
      go_wp2
      go_ret
      exact ⟨ret_bool (by rw [HB.out, hdd]), _, rfl⟩

def PutPost (w : World) (g s base n : Nat) (A : Option Addr) (xs : List Int) (x : Int) (w' : World) : Prop :=
  ∃ A' c', w'.cell? ⟨g, s, none⟩ = some (.slice A' (n + 1) c') ∧ w'.ownsRow base 3 1 (.slice A' (n + 1) c') (n + 1) ((xs ++ [x]).map (Value.int .i64)) ∧ StW w w' g s (A.map (·.block)) ∧ (A'.map (·.block) = A.map (·.block) ∨ A'.map (·.block) = some (w.heap.size + 1))

set_option maxRecDepth 100000 in
set_option maxHeartbeats 2000000 in
theorem put_any (g s base : Nat) (A : Option Addr) (n c : Nat) (xs : List Int) (x : Int) (w : World) (hcell : w.cell? ⟨g, s, none⟩ = some (.slice A n c)) (hfr : w.frozen? ⟨g, s, none⟩ = false) (hown : w.ownsRow base 3 1 (.slice A n c) n (xs.map (Value.int .i64))) (hgb : g < base) (hbase : base ≤ w.heap.size) (hl : n ≤ 1000) :
    Calls Try.prog 53 #[.pointer (some ⟨g, s, none⟩), .int .i64 x] w fun e w' => e = .returned (.tuple #[]) ∧ PutPost w g s base n A xs x w' := by
  obtain ⟨i0, hi0, hz0, hz1, hz2⟩ := info_parts Try.info3
  have hrne : A.map (·.block) ≠ some g := fun e => by
    have := (hown.lt g (by rw [slice_block]; exact e)).1; omega
  have HRN := Lib.hid hrne
  clear hrne
  go_enter Try.func53, Try.ntmps53
  go_wp2_with (at_builtin; refine wpList_push_at rfl (.tmp 7) (.tmp 9) 52 rfl i0 (.int .i64 0) 8 Try.underlying52 hi0 hz0 hz1 hz2 rfl (by decide) _ _ rfl hown [.int .i64 x] rfl rfl (by simp [Value.oneCell']) (by omega) (by omega) hbase ?_)
  intro A' c' w2 hown2 hg2 hat
  have HAT := Lib.hid hat
  rw [slice_block] at hg2
  have hs2 := StW.of_grown (s := s) hg2 (by omega) HRN.out
  have hc2 : w2.cell? ⟨g, s, none⟩ = some (.slice A n c) := (World.cell?_of_block (a := ⟨g, s, none⟩) (hg2.block g (by omega) (fun e => HRN.out e.symm))).trans hcell
  have hf2 : w2.frozen? ⟨g, s, none⟩ = false := (hs2.frozen s).trans hfr
  have hs3 := hs2.trans (StW.setCell w2 g s (.slice A' (n + 1) c')) (.inr (by simp))
  have hown3 := (StW.setCell w2 g s (.slice A' (n + 1) c')).kept hown2 hgb (fun i _ => by simp)
  have hc3 : (w2.setCell ⟨g, s, none⟩ (.slice A' (n + 1) c')).cell? ⟨g, s, none⟩ = some (.slice A' (n + 1) c') := World.cell?_setCell_same w2 _ _ hc2
  have hat3 : A'.map (·.block) = A.map (·.block) ∨ A'.map (·.block) = some (w.heap.size + 1) := by
    rcases HAT.out with h | ⟨a, h1, h2⟩
    · exact .inl h
    · right; rw [h1]; simp [h2]
  have HW := Lib.hid (show PutPost w g s base n A xs x (w2.setCell ⟨g, s, none⟩ (.slice A' (n + 1) c')) from ⟨A', c', hc3, by rw [List.map_append]; exact hown3, hs3, hat3⟩)
  clear hat3
  clear hown hown2 hs2 hs3 hown3 hc3 hat hg2
  go_wp2
  go_end0
  exact ⟨rfl, HW.out⟩

theorem takeWhile_of {p : Int → Bool} {l : List Int} {k : Nat} (hk : k ≤ l.length) (h : ∀ t ∈ l.take k, p t = true) (hs : k = l.length ∨ p (l.getD k 0) = false) : l.takeWhile p = l.take k ∧ l.dropWhile p = l.drop k := by
  induction l generalizing k with
  | nil => simp at hk; subst hk; simp
  | cons a l ih =>
    cases k with
    | zero =>
      rcases hs with hs | hs
      · simp at hs
      · simp only [List.getD_cons_zero] at hs
        rw [List.takeWhile_cons, List.dropWhile_cons]; simp [hs]
    | succ k =>
      have ha : p a = true := h a (by simp)
      obtain ⟨h1, h2⟩ := ih (k := k) (by simpa using hk) (fun t ht => h t (by simp [ht])) (by
        rcases hs with hs | hs
        · left; simpa using hs
        · right; simpa using hs)
      rw [List.takeWhile_cons, List.dropWhile_cons]; simp [ha, h1, h2]
theorem rev_take (xs : List Int) (k : Nat) (_h : k ≤ xs.length) : (xs.reverse.drop k).reverse = xs.take (xs.length - k) := by
  rw [List.drop_reverse, List.reverse_reverse]
theorem rev_getD {xs : List Int} {k : Nat} (h : k < xs.length) : xs.reverse.getD k 0 = xs.getD (xs.length - 1 - k) 0 := by
  have := getD_rev (zs := xs) (i := xs.length - 1 - k) (by omega)
  rw [show xs.length - 1 - (xs.length - 1 - k) = k by omega] at this
  exact this
theorem take_getD {xs : List Int} {m j : Nat} (h : j < m) : (xs.take m).getD j 0 = xs.getD j 0 := by
  simp only [List.getD_eq_getElem?_getD, List.getElem?_take, h, if_true]

def popped (xs : List Int) (x : Int) : List Int := xs.reverse.takeWhile fun t => !decide (x < t)
def stays (xs : List Int) (x : Int) : List Int := (xs.reverse.dropWhile fun t => !decide (x < t)).reverse
def PopPost (w : World) (g s base : Nat) (A : Option Addr) (c : Nat) (xs : List Int) (x : Int) (e : Ending) (w' : World) : Prop :=
  ∃ B d, e = .returned (.slice B (popped xs x).length d) ∧ w'.ownsRow w.heap.size 3 1 (.slice B (popped xs x).length d) (popped xs x).length ((popped xs x).map (Value.int .i64)) ∧
    w'.cell? ⟨g, s, none⟩ = some (.slice A (stays xs x).length c) ∧ w'.ownsRow base 3 1 (.slice A (stays xs x).length c) (stays xs x).length ((stays xs x).map (Value.int .i64)) ∧ StW w w' g s none

set_option maxRecDepth 100000 in
set_option maxHeartbeats 4000000 in
theorem makeRoom_any (g s base : Nat) (A : Option Addr) (n c : Nat) (xs : List Int) (x : Int) (w : World) (hcell : w.cell? ⟨g, s, none⟩ = some (.slice A n c)) (hfr : w.frozen? ⟨g, s, none⟩ = false) (hn : n = xs.length) (hown : w.ownsRow base 3 1 (.slice A n c) n (xs.map (Value.int .i64))) (hgb : g < base) (hbase : base ≤ w.heap.size) (hl : n ≤ 1000) :
    Calls Try.prog 52 #[.pointer (some ⟨g, s, none⟩), .int .i64 x] w (PopPost w g s base A c xs x) := by
  obtain ⟨i0, hi0, hz0, hz1, hz2⟩ := info_parts Try.info3
  have HN := Lib.hid hn
  have HOW := Lib.hid hown
  clear hown hn
  go_enter Try.func52, Try.ntmps52
  go_wp2
  go_loopw [5] (fun v wr => ∃ (k : Nat) (B : Option Addr) (d : Nat), k ≤ n ∧ v = .slice B k d ∧ (∀ t ∈ xs.reverse.take k, (!decide (x < t)) = true) ∧ wr.ownsRow w.heap.size 3 1 (.slice B k d) k ((xs.reverse.take k).map (Value.int .i64)) ∧
      wr.cell? ⟨g, s, none⟩ = some (.slice A (n - k) c) ∧ wr.ownsRow base 3 1 (.slice A (n - k) c) (n - k) ((xs.take (n - k)).map (Value.int .i64)) ∧ StW w wr g s none) (fun v _ => n - (match v with | .slice _ m _ => m | _ => 0))
  case atStart => exact ⟨0, none, 0, by omega, rfl, by simp, World.ownsRow_nil _ _ _ _, hcell, by rw [Nat.sub_zero, HN.out, List.take_length, ← HN.out]; exact HOW.out, StW.refl _ _ _ _⟩
  case round =>
    obtain ⟨k, B, d, hk, rfl, hall, hownB, hcr, hownr, hst⟩ := hrel
    have HA := Lib.hid hall
    have HST := Lib.hid hst
    have HB := Lib.hid hownB
    have hsz := hst.size
    have hfw : wr.frozen? ⟨g, s, none⟩ = false := (hst.frozen s).trans hfr
    have hxl : (xs.take (n - k)).length = n - k := by rw [List.length_take]; have := HN.out; omega
    obtain ⟨W, hW⟩ : ∃ W : World, W = wr := ⟨_, rfl⟩
    subst hW
    obtain ⟨m, hm⟩ : ∃ m, n - k = m := ⟨_, rfl⟩
    rw [hm] at hcr hownr hxl
    have HM := Lib.hid hm
    have hmn : m ≤ n := by omega
    have hbe := bears_any g s base A m c (xs.take m) x W hcr hxl.symm hownr (by omega)
    obtain ⟨q, hq⟩ : ∃ q, bearsB (xs.take m) x = q := ⟨_, rfl⟩
    rw [hq] at hbe
    have HBE := Lib.hid hbe
    clear hall hst hownB hm hbe hcell hfr
    cases q with
    | true =>
      have hkey : k = n ∨ (!decide (x < xs.reverse.getD k 0)) = false := by
        by_cases e : k = n
        · exact .inl e
        · right
          have hmk := HM.out
          have hnl := HN.out
          unfold bearsB at hq
          rw [show decide ((xs.take m).length = 0) = false from decide_eq_false (by omega), Bool.false_or, hxl, take_getD (by omega)] at hq
          rw [rev_getD (by omega), show xs.length - 1 - k = m - 1 by omega, hq]; rfl
      obtain ⟨ht1, ht2⟩ := takeWhile_of (p := fun t => !decide (x < t)) (l := xs.reverse) (k := k) (by have := HN.out; simp; omega) HA.out (by rcases hkey with h | h; exact .inl (by have := HN.out; simp; omega); exact .inr h)
      have hp1 : popped xs x = xs.reverse.take k := ht1
      have hp2 : stays xs x = xs.take m := by
        unfold stays; rw [ht2, rev_take _ _ (by have := HN.out; omega), ← HN.out, HM.out]
      have hpl : (popped xs x).length = k := by rw [hp1, List.length_take, List.length_reverse]; have := HN.out; omega
      have HF := Lib.hid (And.intro hp1 (And.intro hp2 hpl))
      have HXL := Lib.hid hxl
      clear hq hkey ht1 ht2 hp1 hp2 hpl hxl
      go_wp2_with fail
      refine HBE.out.mono ?_
      rintro e w2 ⟨rfl, z, rfl⟩
      go_wp2_with fail
      go_ret
      exact ⟨B, d, by rw [HF.out.2.2]; rfl, by rw [HF.out.2.2, HF.out.1]; exact HB.out, by rw [HF.out.2.1, HXL.out]; exact hcr, by rw [HF.out.2.1, HXL.out]; exact hownr, HST.out.drewN z⟩
    | false =>
      have hm0 : m ≠ 0 := fun e => by
        subst e
        rw [List.take_zero] at hq
        simp [bearsB] at hq
      obtain ⟨p, hp⟩ : ∃ p, m = p + 1 := ⟨m - 1, by omega⟩
      have hlt : (!decide (x < xs.getD p 0)) = true := by
        unfold bearsB at hq
        rw [show decide ((xs.take m).length = 0) = false from decide_eq_false (by omega), Bool.false_or, hxl, take_getD (by omega), show m - 1 = p by omega] at hq
        rw [hq]; rfl
      obtain ⟨b, rfl, hc1, hpm, hmc⟩ := last_cell hownr hp
      rw [take_getD (by omega)] at hc1
      have hidx : (m : Int) - 1 = (p : Int) := by omega
      have hsucc : xs.reverse.take (k + 1) = xs.reverse.take k ++ [xs.getD p 0] := by
        have hnl := HN.out
        have hmk := HM.out
        rw [List.take_succ_eq_append_getElem (by simp; omega), ← getD_get, rev_getD (by omega), show xs.length - 1 - k = p by omega]
      have hpop : W.ownsRow base 3 1 (.slice (some ⟨b, 0, none⟩) p c) p ((xs.take p).map (Value.int .i64)) := by
        refine ownsRow_pop (last := [Value.int .i64 (xs.getD p 0)]) (by have := HN.out; simp; omega) ?_
        rw [hp] at hownr
        have hpl : p < xs.length := by have := HN.out; omega
        rw [List.take_succ_eq_append_getElem hpl, List.map_append, ← getD_get hpl] at hownr
        exact hownr
      obtain ⟨t, hte⟩ : ∃ t, xs.getD p 0 = t := ⟨_, rfl⟩
      rw [hte] at hc1 hlt hsucc
      have hnk : n - (k + 1) = p := by have := HM.out; omega
      obtain ⟨T, hT⟩ : ∃ T, xs.reverse.take k = T := ⟨_, rfl⟩
      rw [hT] at hsucc HB HA
      clear hT
      have HF := Lib.hid (And.intro hsucc (And.intro hlt hnk))
      have HPO := Lib.hid hpop
      have HWI := Lib.hid hidx
      have hpI : (p : Int) < (m : Int) := by omega
      have hp0 : (0 : Int) ≤ (p : Int) := by omega
      have hpc : (p : Int) ≤ (c : Int) := by omega
      have hk1 : k + 1 ≤ n := by have := HM.out; omega
      clear hq hlt hownr hsucc hte hpop hxl hnk hm0 hp
      go_wp2_with fail
      refine HBE.out.mono ?_
      rintro e w2 ⟨rfl, z, rfl⟩
      obtain ⟨W2, hW2⟩ : ∃ W2, W2 = W.drewN z := ⟨_, rfl⟩
      have hcr2 : W2.cell? ⟨g, s, none⟩ = some (.slice (some ⟨b, 0, none⟩) m c) := by rw [hW2]; exact hcr
      have hc2 : W2.cell? ⟨b, p, none⟩ = some (.int .i64 t) := by rw [hW2]; exact hc1
      have hf2 : W2.frozen? ⟨g, s, none⟩ = false := by rw [hW2]; exact hfw
      have HB2 := Lib.hid (show W2.ownsRow w.heap.size 3 1 (.slice B k d) k (T.map (Value.int .i64)) by rw [hW2]; exact HB.out)
      have HPO2 := Lib.hid (show W2.ownsRow base 3 1 (.slice (some ⟨b, 0, none⟩) p c) p ((xs.take p).map (Value.int .i64)) by rw [hW2]; exact HPO.out)
      have HST2 := Lib.hid (show StW w W2 g s none by rw [hW2]; exact HST.out.drewN z)
      rw [← hW2]
      have hsz2 : w.heap.size ≤ W2.heap.size := by rw [hW2]; exact hsz
      clear hW2 hcr hc1 hfw
      have hidx := HWI.out
      have hownB := HB2.out
      go_wp2_with (at_builtin; refine wpList_push rfl (.tmp 16) (.tmp 23) 22 rfl i0 (.int .i64 0) 8 Try.underlying22 hi0 hz0 hz1 hz2 rfl (by decide) _ _ rfl hownB [.int .i64 t] rfl rfl (by simp [Value.oneCell']) (by omega) (by omega) hsz2 ?_)
      intro B' d' w3 hown3 hg3
      have hrB : (Value.slice B k d).ownBlock ≠ some g := fun e => by have := (hownB.lt _ e).1; omega
      have hs3 := StW.of_grown (s := s) hg3 (by have := HB2.out; omega) hrB
      have hc3 : w3.cell? ⟨g, s, none⟩ = some (.slice (some ⟨b, 0, none⟩) m c) := (World.cell?_of_block (a := ⟨g, s, none⟩) (hg3.block g (by omega) (fun e => hrB e.symm))).trans hcr2
      have hf3 : w3.frozen? ⟨g, s, none⟩ = false := (hs3.frozen s).trans hf2
      have hbne : ∀ i, (Value.slice (some ⟨b, 0, none⟩) p c).ownBlock = some i → (Value.slice B k d).ownBlock ≠ some i := fun i hi e => by
        simp only [Value.ownBlock, Option.some.injEq] at hi
        subst hi
        have h1 := (hownB.lt _ e).1
        have := (HOW.out.lt b rfl).2
        omega
      have hpo3 := hs3.kept HPO2.out hgb hbne
      have hs4 := StW.setCell w3 g s (.slice (some ⟨b, 0, none⟩) p c)
      have HC4 := Lib.hid (World.cell?_setCell_same w3 ⟨g, s, none⟩ (.slice (some ⟨b, 0, none⟩) p c) hc3)
      have HB4 := Lib.hid (hs4.kept hown3 (show g < w.heap.size by omega) (fun i _ => by simp))
      have HP4 := Lib.hid (hs4.kept hpo3 hgb (fun i _ => by simp))
      have HS4 := Lib.hid ((HST2.out.trans hs3 (.inr fun i hi => (hownB.lt i hi).1)).trans hs4 (.inl rfl))
      clear hown3 hg3 hownB hbne hpo3 hs3 hs4 hcr2 hc2 hf2
      go_wp2
      go_roundw
      case rel =>
        have hk3 := HF.out
        refine ⟨k + 1, B', d', by omega, by simp, fun t ht => ?_, by rw [hk3.1, List.map_append]; exact HB4.out, by rw [hk3.2.2]; exact HC4.out, by rw [hk3.2.2]; exact HP4.out, HS4.out⟩
        rw [hk3.1] at ht
        rcases List.mem_append.1 ht with ht | ht
        · exact HA.out t ht
        · simp only [List.mem_singleton] at ht; subst ht; exact hk3.2.1
      case measure => simp; omega
end Go.Proofs.Ytdgdlmpmoafkgaa
