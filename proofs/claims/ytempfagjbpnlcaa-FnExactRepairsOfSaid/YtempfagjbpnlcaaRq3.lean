/- Repairs: the closure of impl.nearTo. No condition. -/
import Derived.Test.YtempfagjbpnlcaaRq2
import Derived.Test.YtempfagjbpnlcaaI6
import Derived.ChangeKeysEq
import Derived.Test.YtempfagjbpnlcaaJ3
namespace Go.Proofs.Ytempfagjbpnlcaa
open Go.RowKit

def four (p q r s : Int) : Array Value := #[.int .i64 p, .int .i64 q, .int .i64 r, .int .i64 s]
theorem Try.infoF : (Try.prog.info? 42).map (fun i => (i.zero, i.size, i.bytes)) = some (some (.agg #[.int .i64 0, .int .i64 0, .int .i64 0, .int .i64 0]), 4, 32) := by kernel_rfl

theorem items_eq (X Y : Array Value) (a0 a1 a2 a3 c0 c1 c2 c3 : Value) (b0 b1 b2 b3 : Bool) (W : World)
    (x0 : ∀ W, (part 3 X 0).run Try.prog W = .ok a0 W) (x1 : ∀ W, (part 3 X 1).run Try.prog W = .ok a1 W) (x2 : ∀ W, (part 3 X 2).run Try.prog W = .ok a2 W) (x3 : ∀ W, (part 3 X 3).run Try.prog W = .ok a3 W)
    (y0 : ∀ W, (part 3 Y 0).run Try.prog W = .ok c0 W) (y1 : ∀ W, (part 3 Y 1).run Try.prog W = .ok c1 W) (y2 : ∀ W, (part 3 Y 2).run Try.prog W = .ok c2 W) (y3 : ∀ W, (part 3 Y 3).run Try.prog W = .ok c3 W)
    (e0 : ∀ W, (Op.equalIn 9999 3 a0 c0).run Try.prog W = .ok b0 W) (e1 : ∀ W, (Op.equalIn 9999 3 a1 c1).run Try.prog W = .ok b1 W) (e2 : ∀ W, (Op.equalIn 9999 3 a2 c2).run Try.prog W = .ok b2 W) (e3 : ∀ W, (Op.equalIn 9999 3 a3 c3).run Try.prog W = .ok b3 W) :
    (Op.eqItems 9999 3 1 X Y [0, 1, 2, 3]).run Try.prog W = .ok (b0 && (b1 && (b2 && b3))) W := by
  cases b0 <;> cases b1 <;> cases b2 <;> cases b3 <;> simp [Op.eqItems, x0, x1, x2, x3, y0, y1, y2, y3, e0, e1, e2, e3]

theorem four_eq (p q r s d0 d1 d2 d3 : Int) (W : World) : (Op.equalIn 10000 42 (.agg #[.int .i64 p, .int .i64 q, .int .i64 r, .int .i64 s]) (.agg #[.int .i64 d0, .int .i64 d1, .int .i64 d2, .int .i64 d3])).run Try.prog W =
    .ok ((p == d0) && ((q == d1) && ((r == d2) && (s == d3)))) W := by
  obtain ⟨i0, hi0, -, -, -⟩ := info_parts Try.info3
  have hc : Try.prog.cellsOf 3 = 1 := by kernel_rfl
  have hu3 : Try.prog.underlying 3 = some (.int .i64) := by kernel_rfl
  rw [show (10000 : Nat) = 9999 + 1 from rfl, run_equalIn_array W 9999 _ _ (show Try.prog.underlying 42 = some (.array 4 3) by kernel_rfl) hi0, hc]
  have he : Try.prog.plainKey 3 = true := by kernel_rfl
  have e1 : ∀ (a b : Int) (W : World), (Op.equalIn 9999 3 (.int .i64 a) (.int .i64 b)).run Try.prog W = .ok (a == b) W := fun a b W => run_equalIn_int W 9998 3 .i64 .i64 a b hu3
  have x0 : ∀ W, (part 3 #[.int .i64 p, .int .i64 q, .int .i64 r, .int .i64 s] 0).run Try.prog W = .ok (.int .i64 p) W := fun W => run_part_plain W he rfl
  have x1 : ∀ W, (part 3 #[.int .i64 p, .int .i64 q, .int .i64 r, .int .i64 s] 1).run Try.prog W = .ok (.int .i64 q) W := fun W => run_part_plain W he rfl
  have x2 : ∀ W, (part 3 #[.int .i64 p, .int .i64 q, .int .i64 r, .int .i64 s] 2).run Try.prog W = .ok (.int .i64 r) W := fun W => run_part_plain W he rfl
  have x3 : ∀ W, (part 3 #[.int .i64 p, .int .i64 q, .int .i64 r, .int .i64 s] 3).run Try.prog W = .ok (.int .i64 s) W := fun W => run_part_plain W he rfl
  have y0 : ∀ W, (part 3 #[.int .i64 d0, .int .i64 d1, .int .i64 d2, .int .i64 d3] 0).run Try.prog W = .ok (.int .i64 d0) W := fun W => run_part_plain W he rfl
  have y1 : ∀ W, (part 3 #[.int .i64 d0, .int .i64 d1, .int .i64 d2, .int .i64 d3] 1).run Try.prog W = .ok (.int .i64 d1) W := fun W => run_part_plain W he rfl
  have y2 : ∀ W, (part 3 #[.int .i64 d0, .int .i64 d1, .int .i64 d2, .int .i64 d3] 2).run Try.prog W = .ok (.int .i64 d2) W := fun W => run_part_plain W he rfl
  have y3 : ∀ W, (part 3 #[.int .i64 d0, .int .i64 d1, .int .i64 d2, .int .i64 d3] 3).run Try.prog W = .ok (.int .i64 d3) W := fun W => run_part_plain W he rfl
  show (Op.eqItems 9999 3 1 _ _ [0, 1, 2, 3]).run Try.prog W = _
  exact items_eq _ _ _ _ _ _ _ _ _ _ _ _ _ _ W x0 x1 x2 x3 y0 y1 y2 y3 (e1 _ _) (e1 _ _) (e1 _ _) (e1 _ _)

/-- What an addition leaves: the list's variable, the list, and all else. -/
def AddPost (w : World) (g base n : Nat) (A : Option Addr) (ys : List Value) (w' : World) : Prop :=
  ∃ A' c', w'.cell? ⟨g, 0, none⟩ = some (.slice A' n c') ∧ w'.ownsRow base 42 4 (.slice A' n c') n ys ∧ StW w w' g 0 (A.map (·.block)) ∧ (A'.map (·.block) = A.map (·.block) ∨ ∀ i, A'.map (·.block) = some i → w.heap.size ≤ i)

set_option maxRecDepth 100000 in
set_option maxHeartbeats 2000000 in
theorem addNew_any (b g base n c : Nat) (A : Option Addr) (d0 d1 d2 d3 p q r s : Int) (xs : List Value) (w : World) (hb : w.heap[b]? = some (.cells #[.int .i64 d0, .int .i64 d1, .int .i64 d2, .int .i64 d3] 42 (0, 0)))
    (hcell : w.cell? ⟨g, 0, none⟩ = some (.slice A n c)) (hfr : w.frozen? ⟨g, 0, none⟩ = false) (hown : w.ownsRow base 42 4 (.slice A n c) n xs) (hgb : g < base) (hbase : base ≤ w.heap.size) (hl : n ≤ 1000) (hbl : b < w.heap.size) (hne : [p, q, r, s] ≠ [d0, d1, d2, d3]) :
    Calls Try.prog 53 #[.agg #[.int .i64 p, .int .i64 q, .int .i64 r, .int .i64 s], .pointer (some ⟨b, 0, none⟩), .pointer (some ⟨g, 0, none⟩)] w fun e w' => e = .returned (.tuple #[]) ∧ AddPost w g base (n + 1) A (xs ++ [.int .i64 p, .int .i64 q, .int .i64 r, .int .i64 s]) w' := by
  obtain ⟨i0, hi0, hz0, hz1, hz2⟩ := info_parts Try.infoF
  have hrne : A.map (·.block) ≠ some g := fun e => by
    have := (hown.lt g (by rw [slice_block]; exact e)).1; omega
  have HRN := Lib.hid hrne
  clear hrne
  have heq : ((p == d0) && ((q == d1) && ((r == d2) && (s == d3)))) = false := by
    rw [Bool.eq_false_iff]
    intro h
    simp only [Bool.and_eq_true, beq_iff_eq] at h
    exact hne (by rw [h.1, h.2.1, h.2.2.1, h.2.2.2])
  have hq := fun W => four_eq p q r s d0 d1 d2 d3 W
  rw [heq] at hq
  obtain ⟨V, hV⟩ : ∃ V, w.alloc (.cells #[.int .i64 p, .int .i64 q, .int .i64 r, .int .i64 s] 42) = V := ⟨_, rfl⟩
  have hgl : g < w.heap.size := by omega
  have hgV : w.grownBy V none := by rw [← hV]; exact World.grownBy_alloc w _ none
  have hzV := hgV.size
  have hcV : V.cell? ⟨g, 0, none⟩ = some (.slice A n c) := (World.cell?_of_block (a := ⟨g, 0, none⟩) (hgV.block g hgl (by simp))).trans hcell
  have hgA : w.grownBy V (A.map (·.block)) := by rw [← hV]; exact World.grownBy_alloc w _ _
  have hsV := StW.of_grown (s := 0) hgA hgl HRN.out
  have hfV : V.frozen? ⟨g, 0, none⟩ = false := (hsV.frozen 0).trans hfr
  have hoV : V.ownsRow base 42 4 (.slice A n c) n xs := by rw [← hV]; exact hown.alloc _
  have hbV : base ≤ V.heap.size := by omega
  have hgz : g < V.heap.size := by omega
  have hbb : V.heap[b]? = _ := (hgV.block b hbl (by simp)).trans hb
  have hnn : V.heap[w.heap.size]? = some (.cells #[.int .i64 p, .int .i64 q, .int .i64 r, .int .i64 s] 42 (0, 0)) := by rw [← hV]; exact heap_new _ rfl
  obtain ⟨m0, m1, m2, m3, _⟩ := four_facts hbb
  obtain ⟨u0, u1, u2, u3, _⟩ := four_facts hnn
  have HB := Lib.hid hb
  have HGV := Lib.hid (And.intro hgV hsV)
  clear heq hne hcell hfr hown hb hbb hnn hgV hsV hgA
  go_enter Try.func53, Try.ntmps53
  go_wp2_with (at_builtin; refine wpList_push_at rfl (.tmp 7) (.tmp 9) 51 rfl i0 (.agg #[.int .i64 0, .int .i64 0, .int .i64 0, .int .i64 0]) 32 Try.underlying51 hi0 hz0 hz1 hz2 rfl (by decide) _ _ rfl hoV [.int .i64 p, .int .i64 q, .int .i64 r, .int .i64 s] rfl rfl (by simp [Value.oneCell']) (by omega) (by omega) hbV ?_)
  intro A' c' w2 hown2 hg2 hat
  have HAT := Lib.hid hat
  rw [slice_block] at hg2
  have hs2 := StW.of_grown (s := 0) hg2 (by omega) HRN.out
  have hc2 : w2.cell? ⟨g, 0, none⟩ = some (.slice A n c) := (World.cell?_of_block (a := ⟨g, 0, none⟩) (hg2.block g (by omega) (fun e => HRN.out e.symm))).trans hcV
  have hf2 : w2.frozen? ⟨g, 0, none⟩ = false := (hs2.frozen 0).trans hfV
  have hs3 := hs2.trans (StW.setCell w2 g 0 (.slice A' (n + 1) c')) (.inr (by simp))
  have hown3 := (StW.setCell w2 g 0 (.slice A' (n + 1) c')).kept hown2 hgb (fun i _ => by simp)
  have hc3 : (w2.setCell ⟨g, 0, none⟩ (.slice A' (n + 1) c')).cell? ⟨g, 0, none⟩ = some (.slice A' (n + 1) c') := World.cell?_setCell_same w2 _ _ hc2
  have hat3 : A'.map (·.block) = A.map (·.block) ∨ ∀ i, A'.map (·.block) = some i → w.heap.size ≤ i := by
    rcases HAT.out with h | ⟨a, h1, h2⟩
    · exact .inl h
    · right; intro i hi; rw [h1] at hi; simp [h2] at hi; omega
  have HW := Lib.hid (show AddPost w g base (n + 1) A (xs ++ [.int .i64 p, .int .i64 q, .int .i64 r, .int .i64 s]) (w2.setCell ⟨g, 0, none⟩ (.slice A' (n + 1) c')) from ⟨A', c', hc3, hown3, HGV.out.2.trans hs3 (.inl rfl), hat3⟩)
  clear hat3
  clear hoV hown2 hs2 hs3 hown3 hc3 hat hg2
  go_wp2
  go_end0
  exact ⟨rfl, HW.out⟩

set_option maxRecDepth 100000 in
set_option maxHeartbeats 2000000 in
theorem addSame_any (b g : Nat) (p q r s : Int) (w : World) (hb : w.heap[b]? = some (.cells #[.int .i64 p, .int .i64 q, .int .i64 r, .int .i64 s] 42 (0, 0))) (hbl : b < w.heap.size) :
    Calls Try.prog 53 #[.agg #[.int .i64 p, .int .i64 q, .int .i64 r, .int .i64 s], .pointer (some ⟨b, 0, none⟩), .pointer (some ⟨g, 0, none⟩)] w fun e w' => e = .returned (.tuple #[]) ∧ w.grownBy w' none := by
  have hq := fun W => four_eq p q r s p q r s W
  rw [show ((p == p) && ((q == q) && ((r == r) && (s == s)))) = true from by simp] at hq
  obtain ⟨V, hV⟩ : ∃ V, w.alloc (.cells #[.int .i64 p, .int .i64 q, .int .i64 r, .int .i64 s] 42) = V := ⟨_, rfl⟩
  have hgV : w.grownBy V none := by rw [← hV]; exact World.grownBy_alloc w _ none
  have hbb : V.heap[b]? = _ := (hgV.block b hbl (by simp)).trans hb
  have hnn : V.heap[w.heap.size]? = some (.cells #[.int .i64 p, .int .i64 q, .int .i64 r, .int .i64 s] 42 (0, 0)) := by rw [← hV]; exact heap_new _ rfl
  obtain ⟨m0, m1, m2, m3, _⟩ := four_facts hbb
  obtain ⟨u0, u1, u2, u3, _⟩ := four_facts hnn
  have HGV := Lib.hid hgV
  clear hb hbb hnn hgV
  go_enter Try.func53, Try.ntmps53
  go_wp2
  go_end0
  exact ⟨rfl, HGV.out⟩


def flatF (L : List (List Int)) : List Value := L.flatMap fun y => y.map (Value.int .i64)
theorem flatF_push (L : List (List Int)) (y : List Int) : flatF (L ++ [y]) = flatF L ++ y.map (Value.int .i64) := by simp [flatF]
/-- The list so far: rows i gone through, and m digits of row i. -/
def nearP (d : List Int) (i m : Nat) : List (List Int) := (((List.range i).flatMap (rowD d)) ++ ((List.range m).map fun n : Nat => d.set i (n : Int))).filter fun y => decide (y ≠ d)
def addL (d y : List Int) (L : List (List Int)) : List (List Int) := if y = d then L else L ++ [y]
theorem nearP_next (d : List Int) (i m : Nat) : nearP d i (m + 1) = addL d (d.set i (m : Int)) (nearP d i m) := by
  unfold nearP addL
  rw [List.range_succ, List.map_append, ← List.append_assoc, List.filter_append]
  by_cases h : d.set i (m : Int) = d <;> simp [h]
theorem nearP_zero (d : List Int) : nearP d 1 0 = nearP d 0 10 := by
  unfold nearP
  congr 1
theorem nearP_row (d : List Int) (i : Nat) (hi : 0 < i) : nearP d (i + 1) 0 = addL d (swapD d i) (nearP d i 10) := by
  unfold nearP addL
  rw [List.range_succ, List.flatMap_append]
  simp only [List.flatMap_cons, List.flatMap_nil, rowD, if_pos hi, List.range_zero, List.map_nil, List.append_nil, List.filter_append]
  by_cases h : swapD d i = d <;> simp [h]
theorem nearP_all (d : List Int) : nearP d 4 0 = nearL d := by
  unfold nearP nearL
  simp
theorem nearP_len (d : List Int) (i m : Nat) : (nearP d i m).length ≤ 11 * i + m := by
  have h : ∀ i, ((List.range i).flatMap (rowD d)).length ≤ 11 * i := by
    intro i
    induction i with
    | zero => simp
    | succ k ih =>
      rw [List.range_succ, List.flatMap_append, List.length_append]
      have : (rowD d k).length ≤ 11 := by unfold rowD; split <;> simp
      simp only [List.flatMap_cons, List.flatMap_nil, List.append_nil]
      omega
  unfold nearP
  refine Nat.le_trans (List.length_filter_le _ _) ?_
  have := h i
  simp only [List.length_append, List.length_map, List.length_range]
  omega

def NearSt (w wr : World) (d0 d1 d2 d3 : Int) (L : List (List Int)) : Prop :=
  wr.heap[w.heap.size]? = some (.cells #[.int .i64 d0, .int .i64 d1, .int .i64 d2, .int .i64 d3] 42 (0, 0)) ∧ wr.frozen? ⟨w.heap.size + 1, 0, none⟩ = false ∧ Below w.heap.size w wr ∧ w.heap.size + 2 ≤ wr.heap.size ∧
  ∃ A c, wr.cell? ⟨w.heap.size + 1, 0, none⟩ = some (.slice A L.length c) ∧ wr.ownsRow (w.heap.size + 2) 42 4 (.slice A L.length c) L.length (flatF L)

theorem NearSt.grown {w wr W : World} {d0 d1 d2 d3 : Int} {L : List (List Int)} (h : NearSt w wr d0 d1 d2 d3 L) (hg : wr.grownBy W none) : NearSt w W d0 d1 d2 d3 L := by
  obtain ⟨h1, h2, h3, h4, A, c, h5, h6⟩ := h
  have hs := StW.of_grown (s := 0) (g := w.heap.size + 1) hg (by omega) (by simp)
  refine ⟨(hg.block _ (by omega) (by simp)).trans h1, (hs.frozen 0).trans h2, h3.grown hg h3.size (fun i hi => by cases hi), by have := hg.size; omega, A, c, ?_, ?_⟩
  · exact (World.cell?_of_block (a := ⟨w.heap.size + 1, 0, none⟩) (hg.block _ (by show w.heap.size + 1 < _; omega) (by simp))).trans h5
  · exact h6.kept hg (Decidable.em _)

theorem nearAdd_any (w W : World) (d0 d1 d2 d3 p q r s : Int) (L : List (List Int)) (h : NearSt w W d0 d1 d2 d3 L) (hl : L.length ≤ 1000) :
    Calls Try.prog 53 #[.agg #[.int .i64 p, .int .i64 q, .int .i64 r, .int .i64 s], .pointer (some ⟨w.heap.size, 0, none⟩), .pointer (some ⟨w.heap.size + 1, 0, none⟩)] W fun e w' => e = .returned (.tuple #[]) ∧ NearSt w w' d0 d1 d2 d3 (addL [d0, d1, d2, d3] [p, q, r, s] L) := by
  have h' := h
  obtain ⟨h1, h2, h3, h4, A, c, h5, h6⟩ := h
  by_cases he : [p, q, r, s] = [d0, d1, d2, d3]
  · have hadd : addL [d0, d1, d2, d3] [p, q, r, s] L = L := by simp [addL, he]
    simp only [List.cons.injEq, and_true] at he
    obtain ⟨rfl, rfl, rfl, rfl⟩ := he
    refine (addSame_any w.heap.size (w.heap.size + 1) _ _ _ _ W h1 (by omega)).mono ?_
    rintro e w' ⟨rfl, hg⟩
    rw [hadd]
    exact ⟨rfl, h'.grown hg⟩
  · have hadd : addL [d0, d1, d2, d3] [p, q, r, s] L = L ++ [[p, q, r, s]] := by simp only [addL, if_neg he]
    have hb := fun i hi => (h6.lt i hi).1
    refine (addNew_any w.heap.size (w.heap.size + 1) (w.heap.size + 2) L.length c A d0 d1 d2 d3 p q r s (flatF L) W h1 h5 h2 h6 (by omega) h4 hl (by omega) he).mono ?_
    rintro e w' ⟨rfl, A', c', g1, g2, g3, g4⟩
    rw [hadd]
    have hA : ∀ i, A.map (·.block) = some i → w.heap.size + 2 ≤ i := fun i hi => hb i (by rw [slice_block]; exact hi)
    refine ⟨rfl, (g3.block _ (by omega) (by omega) (fun e => by have := hA _ e.symm; omega)).trans h1, (g3.frozen 0).trans h2, h3.trans (g3.below (by omega) (by omega) (fun i hi => by have := hA i hi; omega)), by have := g3.size; omega, A', c', ?_, ?_⟩
    · rw [List.length_append]; exact g1
    · rw [List.length_append, flatF_push]; exact g2

/-- An array in a block of its own, with number m at place i. -/
theorem new_four {wr W : World} (p q r s : Int) (h : wr.grownBy W none) : wr.grownBy (W.alloc (.cells #[.int .i64 p, .int .i64 q, .int .i64 r, .int .i64 s] 42)) none := g_alloc h _

theorem grown_set {w W : World} (h : w.grownBy W none) {k : Nat} (hk : w.heap.size ≤ k) (j : Nat) (v : Value) : w.grownBy (W.setCell ⟨k, j, none⟩ v) none :=
  ⟨h.os, h.tape, h.output, by simp; exact h.size, fun i hi hne => (Below.heap_setCell W _ _ i (by show i ≠ k; omega)).trans (h.block i hi hne)⟩

set_option maxRecDepth 100000 in
set_option maxHeartbeats 8000000 in
theorem nearTo_any (d0 d1 d2 d3 : Int) (w : World) :
    Calls Try.prog 37 #[.agg #[.int .i64 d0, .int .i64 d1, .int .i64 d2, .int .i64 d3]] w fun e w' => ∃ A c, e = .returned (.slice A (nearL [d0, d1, d2, d3]).length c) ∧ w'.ownsRow (w.heap.size + 2) 42 4 (.slice A (nearL [d0, d1, d2, d3]).length c) (nearL [d0, d1, d2, d3]).length (flatF (nearL [d0, d1, d2, d3])) ∧ Below w.heap.size w w' := by
  have hadd := fun W p q r s L h hl => nearAdd_any w W d0 d1 d2 d3 p q r s L h hl
  have HADD := Lib.hid hadd
  clear hadd
  go_enter Try.func37, Try.ntmps37
  have hst0 : NearSt w ((w.alloc (.cells #[.int .i64 d0, .int .i64 d1, .int .i64 d2, .int .i64 d3] 42)).alloc (.cells #[.slice none 0 0] 51)) d0 d1 d2 d3 (nearP [d0, d1, d2, d3] 0 0) := by
    refine ⟨?_, ?_, ((Below.refl _ _).alloc (Nat.le_refl _) _).alloc (by simp) _, by simp, none, 0, ?_, ⟨rfl, .inl ⟨rfl, rfl⟩⟩⟩
    · exact ((World.grownBy_alloc (w.alloc (.cells #[.int .i64 d0, .int .i64 d1, .int .i64 d2, .int .i64 d3] 42)) (.cells #[.slice none 0 0] 51) none).block w.heap.size (by simp) (by simp)).trans (heap_new _ rfl)
    · exact frozen_of_row _ (w.heap.size + 1) 0 _ _ (heap_new _ (by simp))
    · exact cell_of_row _ (w.heap.size + 1) 0 _ _ _ (heap_new _ (by simp))
  have HST := Lib.hid hst0
  clear hst0
  go_wp2
  go_loopw [10] (fun i wr => ∃ k : Nat, k ≤ 4 ∧ i = .int .i64 k ∧ NearSt w wr d0 d1 d2 d3 (nearP [d0, d1, d2, d3] k 0)) (fun i _ => 4 - (intOf i).toNat)
  case atStart => exact ⟨0, by omega, rfl, HST.out⟩
  case round =>
    obtain ⟨k, hk, rfl, hst⟩ := hrel
    clear HST
    by_cases hlt : k < 4
    · obtain ⟨W0, hW0⟩ : ∃ W : World, W = wr := ⟨_, rfl⟩
      subst hW0
      have HS := Lib.hid hst
      clear hst
      go_wp2
      go_loopw [13] (fun j wr => ∃ m : Nat, m ≤ 10 ∧ j = .int .i64 m ∧ NearSt w wr d0 d1 d2 d3 (nearP [d0, d1, d2, d3] k m)) (fun j _ => 10 - (intOf j).toNat)
      case atStart => exact ⟨0, by omega, rfl, HS.out⟩
      case round =>
        obtain ⟨m, hm, rfl, hst⟩ := hrel
        clear HS
        have hb := hst.1
        have hln := nearP_len [d0, d1, d2, d3] k m
        have hwz := hst.2.2.2.1
        obtain ⟨m0, m1, m2, m3, _⟩ := four_facts hb
        have HS := Lib.hid hst
        clear hst hb
        by_cases hmt : m < 10
        · have hnx := nearP_next [d0, d1, d2, d3] k m
          have HNX := Lib.hid hnx
          clear hnx
          have hk4 : k = 0 ∨ k = 1 ∨ k = 2 ∨ k = 3 := by omega
          rcases hk4 with rfl | rfl | rfl | rfl
          · go_wp2_with fail
            refine (HADD.out _ _ _ _ _ _ (HS.out.grown (World.grownBy_alloc wr _ none)) (by omega)).mono ?_
            rintro e w2 ⟨rfl, hs2⟩
            have HS2 := Lib.hid hs2
            clear hs2 m0 m1 m2 m3
            go_wp2
            go_roundw
            case rel =>
              (repeat apply Exists.intro)
              exact ⟨⟨m + 1, by omega, by go_num, by rw [HNX.out]; exact HS2.out⟩, rfl⟩
            case measure => simp [intOf]; omega
          · go_wp2_with fail
            refine (HADD.out _ _ _ _ _ _ (HS.out.grown (World.grownBy_alloc wr _ none)) (by omega)).mono ?_
            rintro e w2 ⟨rfl, hs2⟩
            have HS2 := Lib.hid hs2
            clear hs2 m0 m1 m2 m3
            go_wp2
            go_roundw
            case rel =>
              (repeat apply Exists.intro)
              exact ⟨⟨m + 1, by omega, by go_num, by rw [HNX.out]; exact HS2.out⟩, rfl⟩
            case measure => simp [intOf]; omega
          · go_wp2_with fail
            refine (HADD.out _ _ _ _ _ _ (HS.out.grown (World.grownBy_alloc wr _ none)) (by omega)).mono ?_
            rintro e w2 ⟨rfl, hs2⟩
            have HS2 := Lib.hid hs2
            clear hs2 m0 m1 m2 m3
            go_wp2
            go_roundw
            case rel =>
              (repeat apply Exists.intro)
              exact ⟨⟨m + 1, by omega, by go_num, by rw [HNX.out]; exact HS2.out⟩, rfl⟩
            case measure => simp [intOf]; omega
          · go_wp2_with fail
            refine (HADD.out _ _ _ _ _ _ (HS.out.grown (World.grownBy_alloc wr _ none)) (by omega)).mono ?_
            rintro e w2 ⟨rfl, hs2⟩
            have HS2 := Lib.hid hs2
            clear hs2 m0 m1 m2 m3
            go_wp2
            go_roundw
            case rel =>
              (repeat apply Exists.intro)
              exact ⟨⟨m + 1, by omega, by go_num, by rw [HNX.out]; exact HS2.out⟩, rfl⟩
            case measure => simp [intOf]; omega
        · have hm10 : m = 10 := by omega
          subst hm10
          have hk4 : k = 0 ∨ k = 1 ∨ k = 2 ∨ k = 3 := by omega
          rcases hk4 with rfl | rfl | rfl | rfl
          · go_wp2
            go_roundw
            case rel => exact ⟨1, by omega, rfl, by rw [nearP_zero]; exact HS.out⟩
            case measure => simp [intOf]
          · obtain ⟨V, hV⟩ : ∃ V, wr.alloc (.cells #[.int .i64 d0, .int .i64 d1, .int .i64 d2, .int .i64 d3] 42) = V := ⟨_, rfl⟩
            have hgV : wr.grownBy V none := by rw [← hV]; exact World.grownBy_alloc wr _ none
            have hbb : V.heap[w.heap.size]? = _ := (hgV.block _ (by omega) (by simp)).trans HS.out.1
            have hnn : V.heap[wr.heap.size]? = some (.cells #[.int .i64 d0, .int .i64 d1, .int .i64 d2, .int .i64 d3] 42 (0, 0)) := by rw [← hV]; exact heap_new _ rfl
            obtain ⟨n0, n1, n2, n3, _⟩ := four_facts hbb
            obtain ⟨u0, u1, u2, u3, f0, f1, f2, f3⟩ := four_facts hnn
            have HGV := Lib.hid hgV
            clear hgV hbb hnn
            go_wp2
            go_region
            all_goals
              go_wp2_with fail
              refine (HADD.out _ d1 d0 d2 d3 _ (HS.out.grown (grown_set (grown_set (g_drew HGV.out) (Nat.le_refl _) _ _) (Nat.le_refl _) _ _)) (by omega)).mono ?_
              rintro e w2 ⟨rfl, hs2⟩
              have HS2 := Lib.hid hs2
              clear hs2 m0 m1 m2 m3 n0 n1 n2 n3 u0 u1 u2 u3 f0 f1 f2 f3
              go_wp2
              go_roundw
              case rel =>
                exact ⟨2, by omega, rfl, by rw [nearP_row _ 1 (by omega)]; exact HS2.out⟩
              case measure => simp [intOf]
          · obtain ⟨V, hV⟩ : ∃ V, wr.alloc (.cells #[.int .i64 d0, .int .i64 d1, .int .i64 d2, .int .i64 d3] 42) = V := ⟨_, rfl⟩
            have hgV : wr.grownBy V none := by rw [← hV]; exact World.grownBy_alloc wr _ none
            have hbb : V.heap[w.heap.size]? = _ := (hgV.block _ (by omega) (by simp)).trans HS.out.1
            have hnn : V.heap[wr.heap.size]? = some (.cells #[.int .i64 d0, .int .i64 d1, .int .i64 d2, .int .i64 d3] 42 (0, 0)) := by rw [← hV]; exact heap_new _ rfl
            obtain ⟨n0, n1, n2, n3, _⟩ := four_facts hbb
            obtain ⟨u0, u1, u2, u3, f0, f1, f2, f3⟩ := four_facts hnn
            have HGV := Lib.hid hgV
            clear hgV hbb hnn
            go_wp2
            go_region
            all_goals
              go_wp2_with fail
              refine (HADD.out _ d0 d2 d1 d3 _ (HS.out.grown (grown_set (grown_set (g_drew HGV.out) (Nat.le_refl _) _ _) (Nat.le_refl _) _ _)) (by omega)).mono ?_
              rintro e w2 ⟨rfl, hs2⟩
              have HS2 := Lib.hid hs2
              clear hs2 m0 m1 m2 m3 n0 n1 n2 n3 u0 u1 u2 u3 f0 f1 f2 f3
              go_wp2
              go_roundw
              case rel =>
                exact ⟨3, by omega, rfl, by rw [nearP_row _ 2 (by omega)]; exact HS2.out⟩
              case measure => simp [intOf]
          · obtain ⟨V, hV⟩ : ∃ V, wr.alloc (.cells #[.int .i64 d0, .int .i64 d1, .int .i64 d2, .int .i64 d3] 42) = V := ⟨_, rfl⟩
            have hgV : wr.grownBy V none := by rw [← hV]; exact World.grownBy_alloc wr _ none
            have hbb : V.heap[w.heap.size]? = _ := (hgV.block _ (by omega) (by simp)).trans HS.out.1
            have hnn : V.heap[wr.heap.size]? = some (.cells #[.int .i64 d0, .int .i64 d1, .int .i64 d2, .int .i64 d3] 42 (0, 0)) := by rw [← hV]; exact heap_new _ rfl
            obtain ⟨n0, n1, n2, n3, _⟩ := four_facts hbb
            obtain ⟨u0, u1, u2, u3, f0, f1, f2, f3⟩ := four_facts hnn
            have HGV := Lib.hid hgV
            clear hgV hbb hnn
            go_wp2
            go_region
            all_goals
              go_wp2_with fail
              refine (HADD.out _ d0 d1 d3 d2 _ (HS.out.grown (grown_set (grown_set (g_drew HGV.out) (Nat.le_refl _) _ _) (Nat.le_refl _) _ _)) (by omega)).mono ?_
              rintro e w2 ⟨rfl, hs2⟩
              have HS2 := Lib.hid hs2
              clear hs2 m0 m1 m2 m3 n0 n1 n2 n3 u0 u1 u2 u3 f0 f1 f2 f3
              go_wp2
              go_roundw
              case rel =>
                exact ⟨4, by omega, rfl, by rw [nearP_row _ 3 (by omega)]; exact HS2.out⟩
              case measure => simp [intOf]
    · have hk4 : k = 4 := by omega
      subst hk4
      rw [nearP_all] at hst
      obtain ⟨h1, h2, h3, h4, A, c, h5, h6⟩ := hst
      have HH := Lib.hid (And.intro h6 h3)
      clear h1 h2 h3 h4 h6
      go_wp2
      go_ret
      exact ⟨A, c, rfl, HH.out.1, HH.out.2⟩


theorem own_newAt' (w : World) (us : Array Value) (t : TypeId) {g : Nat} (hg : w.heap.size = g) : Own (w.alloc (.cells us t)) 0 (g + 1) (some ⟨g, 0, none⟩) us.toList := by
  subst hg; exact own_new w us t

theorem cmp_val {a b : List Int} (ha : validD a = true) (hb : validD b = true) (h : cmpL a b ≤ 0) : val4 a ≤ val4 b := by
  obtain ⟨a0, a1, a2, a3, rfl, h0, h1, h2, h3⟩ := validD_parts ha
  obtain ⟨b0, b1, b2, b3, rfl, k0, k1, k2, k3⟩ := validD_parts hb
  simp only [cmpL] at h
  simp only [val4, List.getD_cons_zero, List.getD_cons_succ]
  split at h
  · omega
  · split at h
    · omega
    · split at h
      · omega
      · split at h
        · omega
        · split at h
          · omega
          · split at h
            · omega
            · split at h
              · omega
              · split at h <;> omega

set_option maxRecDepth 100000 in
set_option maxHeartbeats 2000000 in
theorem cmpFour_any (p q r s a b c d : Int) (w : World) :
    Calls Try.prog 39 #[.agg #[.int .i64 p, .int .i64 q, .int .i64 r, .int .i64 s], .agg #[.int .i64 a, .int .i64 b, .int .i64 c, .int .i64 d]] w fun e w' => e = .returned (.int .i64 (cmpL [p, q, r, s] [a, b, c, d])) ∧ Below w.heap.size w w' := by
  obtain ⟨V, hV⟩ : ∃ V, (w.alloc (.cells #[.int .i64 p, .int .i64 q, .int .i64 r, .int .i64 s] 42)).alloc (.cells #[.int .i64 a, .int .i64 b, .int .i64 c, .int .i64 d] 42) = V := ⟨_, rfl⟩
  have hbV : Below w.heap.size w V := by rw [← hV]; exact ((Below.refl _ _).alloc (Nat.le_refl _) _).alloc (by simp) _
  have hsz : V.heap.size = w.heap.size + 2 := by rw [← hV]; simp
  have o1 : Ints V V.heap.size (some ⟨w.heap.size, 0, none⟩) [p, q, r, s] := by
    have h := own_new w #[.int .i64 p, .int .i64 q, .int .i64 r, .int .i64 s] 42
    have h' : Ints (w.alloc (.cells #[.int .i64 p, .int .i64 q, .int .i64 r, .int .i64 s] 42)) (w.alloc (.cells #[.int .i64 p, .int .i64 q, .int .i64 r, .int .i64 s] 42)).heap.size (some ⟨w.heap.size, 0, none⟩) [p, q, r, s] := h.more (by simp)
    have h2 := h'.below ((Below.refl _ _).alloc (Nat.le_refl _) (.cells #[.int .i64 a, .int .i64 b, .int .i64 c, .int .i64 d] 42))
    rw [hV] at h2
    exact h2.more (by rw [hsz]; simp)
  have o2 : Ints V V.heap.size (some ⟨w.heap.size + 1, 0, none⟩) [a, b, c, d] := by
    have h := own_newAt' (w.alloc (.cells #[.int .i64 p, .int .i64 q, .int .i64 r, .int .i64 s] 42)) #[.int .i64 a, .int .i64 b, .int .i64 c, .int .i64 d] 42 (World.size_alloc _ _)
    rw [hV] at h
    exact h.more (by omega)
  have hcp := fun n => compareL_any _ _ 4 4 _ _ (V.drewN n) (o1.below (below_drewN (Below.refl _ _) n)) (o2.below (below_drewN (Below.refl _ _) n)) (by simp) (by simp)
  have HCP := Lib.hid hcp
  have HBV := Lib.hid hbV
  clear hcp o1 o2 hbV hsz
  go_enter Try.func39, Try.ntmps39
  go_wp2_with fail
  go_quiet ((go_at_call 40; exact Calls.quiet_of ((HCP.out _).mono fun _ _ ⟨h1, h2⟩ => ⟨h1, 0, h2.symm⟩)))
  go_wp2
  go_ret
  exact ⟨rfl, below_drewN HBV.out _⟩
end Go.Proofs.Ytempfagjbpnlcaa
