/- Streets behind pointers; impl.reachedFrom, impl.isCorner. No condition. -/
import Derived.Test.YtjklnknlifpidaaN4
import Derived.Test.YtjklnknlifpidaaDr
import Derived.Deep.RegionLaw
import Derived.Deep.RegionWith
namespace Go.Proofs.Ytjklnknlifpidaa
open Go.RowKit

set_option maxRecDepth 100000 in
theorem isCorner_any (x n : Int) (w : World) : Calls Try.prog 51 #[.int .i64 x, .int .i64 n] w fun e w' => e = .returned (.bool (inR x 0 (n - 1))) ∧ w = w' := by
  by_cases h0 : 0 ≤ x
  · by_cases h1 : x < n
    · have HF := Lib.hid (show inR x 0 (n - 1) = true from inR_iff.2 ⟨h0, by omega⟩)
      go_enter Try.func51, Try.ntmps51
      go_wp2
      go_ret
      exact ⟨ret_bool HF.out.symm, rfl⟩
    · have HF := Lib.hid (show inR x 0 (n - 1) = false by simp [inR]; omega)
      have h2 : decide (x < n) = false := decide_eq_false h1
      clear h1
      go_enter Try.func51, Try.ntmps51
      go_wp2
      go_ret
      exact ⟨ret_bool HF.out.symm, rfl⟩
  · have HF := Lib.hid (show inR x 0 (n - 1) = false by simp [inR]; omega)
    have h2 : x < 0 := by omega
    clear h0
    go_enter Try.func51, Try.ntmps51
    go_wp2
    go_ret
    exact ⟨ret_bool HF.out.symm, rfl⟩

/-- Streets with their marks, walked or not. -/
abbrev SW := St × Bool
def rStepW (r : Nat → Bool) (s : SW) : Nat → Bool := if s.2 then r else rStep r s.1
def sweepW (L : List SW) (r : Nat → Bool) : Nat → Bool := L.foldl rStepW r
def sweepsW (L : List SW) (r : Nat → Bool) : Nat → (Nat → Bool)
  | 0 => r
  | k + 1 => sweepW L (sweepsW L r k)
def reachW (L : List SW) (c : Nat) : Nat → Bool := sweepsW L (startAt c) L.length
def fresh (ss : List St) : List SW := ss.map fun s => (s, false)
theorem sweepW_fresh (ss : List St) (r : Nat → Bool) : sweepW (fresh ss) r = sweep ss r := by
  induction ss generalizing r with
  | nil => rfl
  | cons s ss ih => exact ih (rStep r s)
theorem reachW_fresh (ss : List St) (c : Nat) : reachW (fresh ss) c = reach ss c := by
  have : ∀ k, sweepsW (fresh ss) (startAt c) k = sweeps ss (startAt c) k := fun k => by
    induction k with
    | zero => rfl
    | succ k ih => show sweepW _ (sweepsW _ _ k) = _; rw [ih, sweepW_fresh]; rfl
  unfold reachW reach
  rw [this]; simp [fresh]
theorem sweepW_take {L : List SW} {k : Nat} (hk : k < L.length) (r : Nat → Bool) : sweepW (L.take (k + 1)) r = rStepW (sweepW (L.take k) r) L[k] := by
  unfold sweepW; rw [List.take_succ_eq_append_getElem hk, List.foldl_append]; rfl

/-- The streets of a town, behind pointers. -/
def Town (w : World) (base : Nat) (A : Option Addr) (bs : List Nat) (L : List SW) : Prop :=
  bs.length = L.length ∧ Own w 0 w.heap.size A (bs.map fun b => Value.pointer (some ⟨b, 0, none⟩)) ∧ bs.Nodup ∧
  ∀ j (hb : j < bs.length) (h : j < L.length), base ≤ bs[j] ∧ w.heap[bs[j]]? = some (.cells #[.int .i64 (L[j].1.1 : Int), .int .i64 (L[j].1.2.1 : Int), .int .i64 (L[j].1.2.2 : Int), .bool L[j].2] 49 (0, 0))
section
variable {w w' : World} {base g : Nat} {A : Option Addr} {bs : List Nat} {L : List SW} {r : Nat → Bool}
theorem Town.keep (h : Town w base A bs L) (hb : Below w.heap.size w w') : Town w' base A bs L := by
  obtain ⟨h1, h2, h3, h4⟩ := h
  refine ⟨h1, h2.past hb, h3, fun j hj h => ?_⟩
  obtain ⟨h5, h6⟩ := h4 j hj h
  exact ⟨h5, (hb.block _ (lt_of_heap h6)).trans h6⟩
theorem Town.street (h : Town w base A bs L) {k : Nat} (hk : k < L.length) : ∃ b0 o b, A = some ⟨b0, o, none⟩ ∧ b0 < w.heap.size ∧ w.cell? ⟨b0, o + k, none⟩ = some (.pointer (some ⟨b, 0, none⟩)) ∧ b < w.heap.size ∧ base ≤ b ∧ bs[k]? = some b ∧
    w.cell? ⟨b, 0, none⟩ = some (.int .i64 (L[k].1.1 : Int)) ∧ w.cell? ⟨b, 1, none⟩ = some (.int .i64 (L[k].1.2.1 : Int)) ∧ w.cell? ⟨b, 2, none⟩ = some (.int .i64 (L[k].1.2.2 : Int)) ∧ w.cell? ⟨b, 3, none⟩ = some (.bool L[k].2) := by
  obtain ⟨h1, h2, h3, h4⟩ := h
  obtain ⟨b0, o, hA, hb0, hc⟩ := h2.open (by simp; omega)
  obtain ⟨h5, h6⟩ := h4 k (by omega) hk
  refine ⟨b0, o, bs[k]'(by omega), hA, hb0, hc k _ (by simp [List.getElem?_eq_getElem (show k < bs.length by omega)]), lt_of_heap h6, h5, List.getElem?_eq_getElem (by omega), ?_, ?_, ?_, ?_⟩
  · rw [cell_of_row w _ 0 _ _ _ h6]; rfl
  · rw [cell_of_row w _ 1 _ _ _ h6]; rfl
  · rw [cell_of_row w _ 2 _ _ _ h6]; rfl
  · rw [cell_of_row w _ 3 _ _ _ h6]; rfl

/-- An array of five marks. -/
def BoolsAt (w : World) (base g : Nat) (r : Nat → Bool) : Prop := base ≤ g ∧ g < w.heap.size ∧ (∀ i, i < 5 → w.cell? ⟨g, i, none⟩ = some (.bool (r i))) ∧ ∀ j, w.frozen? ⟨g, j, none⟩ = false
theorem BoolsAt.keep (h : BoolsAt w base g r) (hb : Below w.heap.size w w') : BoolsAt w' base g r := by
  obtain ⟨h1, h2, h3, h4⟩ := h
  have := hb.size
  exact ⟨h1, by omega, fun i hi => by rw [hb.cell (p := ⟨g, i, none⟩) h2]; exact h3 i hi, fun j => by rw [hb.frozen (p := ⟨g, j, none⟩) h2]; exact h4 j⟩
theorem BoolsAt.put (h : BoolsAt w base g r) {i : Nat} (hi : i < 5) (v : Bool) : BoolsAt (w.setCell ⟨g, i, none⟩ (.bool v)) base g (fun k => if k = i then v else r k) := by
  obtain ⟨h1, h2, h3, h4⟩ := h
  have hsz : (w.setCell ⟨g, i, none⟩ (.bool v)).heap.size = w.heap.size := by simp [World.setCell]
  refine ⟨h1, by omega, fun k hk => ?_, fun j => by rw [World.frozen?_setCell]; exact h4 j⟩
  by_cases e : k = i
  · subst e
    show _ = some (Value.bool (if k = k then v else r k))
    rw [if_pos rfl, World.cell?_setCell_same w _ _ (h3 k hk)]
  · show _ = some (Value.bool (if k = i then v else r k))
    rw [if_neg e, World.cell?_setCell_other w _ _ _ (by intro e2; injection e2 with e3 e4; omega)]
    exact h3 k hk
theorem BoolsAt.congr {r' : Nat → Bool} (h : BoolsAt w base g r) (he : ∀ i, i < 5 → r' i = r i) : BoolsAt w base g r' := ⟨h.1, h.2.1, fun i hi => by rw [he i hi]; exact h.2.2.1 i hi, h.2.2.2⟩
theorem BoolsAt.other (h : BoolsAt w base g r) {b i : Nat} (hb : b ≠ g) (v : Value) : BoolsAt (w.setCell ⟨b, i, none⟩ v) base g r := by
  obtain ⟨h1, h2, h3, h4⟩ := h
  have hsz : (w.setCell ⟨b, i, none⟩ v).heap.size = w.heap.size := by simp [World.setCell]
  refine ⟨h1, by omega, fun k hk => ?_, fun j => by rw [World.frozen?_setCell]; exact h4 j⟩
  rw [World.cell?_setCell_other w _ _ _ (by intro e2; injection e2 with e3 e4; first | exact hb e3 | exact hb e3.symm)]
  exact h3 k hk
theorem BoolsAt.both (h : BoolsAt w base g r) {x y : Nat} (hx : x < 5) (hy : y < 5) {r' : Nat → Bool} (he : ∀ i, r' i = (r i || (i == x || i == y))) : BoolsAt ((w.setCell ⟨g, x, none⟩ (.bool true)).setCell ⟨g, y, none⟩ (.bool true)).drew base g r' ∧ BoolsAt ((w.setCell ⟨g, y, none⟩ (.bool true)).setCell ⟨g, x, none⟩ (.bool true)).drew base g r' ∧
    (w.setCell ⟨g, x, none⟩ (.bool true)).cell? ⟨g, y, none⟩ = some (.bool (if y = x then true else r y)) ∧ (w.setCell ⟨g, y, none⟩ (.bool true)).cell? ⟨g, x, none⟩ = some (.bool (if x = y then true else r x)) := by
  refine ⟨(((h.put hx true).put hy true).keep (below_drewT _)).congr fun i hi => ?_, (((h.put hy true).put hx true).keep (below_drewT _)).congr fun i hi => ?_, (h.put hx true).2.2.1 y hy, (h.put hy true).2.2.1 x hx⟩
  · rw [he]
    by_cases e1 : i = x <;> by_cases e2 : i = y <;> simp [e1, e2]
  · rw [he]
    by_cases e1 : i = x <;> by_cases e2 : i = y <;> simp [e1, e2]
end

theorem rStep_no {r : Nat → Bool} {s : St} (h : (r s.1 || r s.2.1) = false) : rStep r s = r := by unfold rStep; rw [h]; rfl
theorem rStep_yes {r : Nat → Bool} {s : St} (h : (r s.1 || r s.2.1) = true) (i : Nat) : rStep r s i = (r i || (i == s.1 || i == s.2.1)) := by unfold rStep; rw [h]; rfl
theorem BoolsAt.new (w : World) (r : Nat → Bool) (base : Nat) (hb : base ≤ w.heap.size) (hr : ∀ i, i < 5 → r i = false) : BoolsAt (w.alloc (.cells #[.bool false, .bool false, .bool false, .bool false, .bool false] 69)) base w.heap.size r := by
  refine ⟨hb, by simp, fun i hi => ?_, fun j => frozen_of_row _ _ _ _ _ (heap_alloc_new w _)⟩
  rw [hr i hi, cell_of_row _ _ _ _ _ _ (heap_alloc_new w _)]
  match i, hi with
  | 0, _ => rfl
  | 1, _ => rfl
  | 2, _ => rfl
  | 3, _ => rfl
  | 4, _ => rfl

def oneOf (c : Nat) : Obj := .cells ([Value.bool false, Value.bool false, Value.bool false, Value.bool false, Value.bool false].set c (Value.bool true)).toArray 69
theorem BoolsAt.begin (w : World) (base c : Nat) (hb : base ≤ w.heap.size) (hc : c < 5) : BoolsAt (w.alloc (.cells ([Value.bool false, Value.bool false, Value.bool false, Value.bool false, Value.bool false].set c (Value.bool true)).toArray 69)) base w.heap.size (startAt c) := by
  refine ⟨hb, by simp, fun i hi => ?_, fun j => frozen_of_row _ _ _ _ _ (heap_alloc_new w _)⟩
  rw [cell_of_row _ _ _ _ _ _ (heap_alloc_new w _)]
  match c, hc, i, hi with
  | 0, _, 0, _ => rfl
  | 0, _, 1, _ => rfl
  | 0, _, 2, _ => rfl
  | 0, _, 3, _ => rfl
  | 0, _, 4, _ => rfl
  | 1, _, 0, _ => rfl
  | 1, _, 1, _ => rfl
  | 1, _, 2, _ => rfl
  | 1, _, 3, _ => rfl
  | 1, _, 4, _ => rfl
  | 2, _, 0, _ => rfl
  | 2, _, 1, _ => rfl
  | 2, _, 2, _ => rfl
  | 2, _, 3, _ => rfl
  | 2, _, 4, _ => rfl
  | 3, _, 0, _ => rfl
  | 3, _, 1, _ => rfl
  | 3, _, 2, _ => rfl
  | 3, _, 3, _ => rfl
  | 3, _, 4, _ => rfl
  | 4, _, 0, _ => rfl
  | 4, _, 1, _ => rfl
  | 4, _, 2, _ => rfl
  | 4, _, 3, _ => rfl
  | 4, _, 4, _ => rfl

theorem reach_end {L : List SW} {corner : Nat} : reachW L corner = sweepsW L (startAt corner) L.length := rfl
set_option maxRecDepth 100000 in
set_option maxHeartbeats 4000000 in
theorem reachedFrom_any (A : Option Addr) (c base corner : Nat) (bs : List Nat) (L : List SW) (w : World) (ht : Town w base A bs L) (hl : L.length ≤ 7) (hlt : ∀ s ∈ L, s.1.1 < 5 ∧ s.1.2.1 < 5) (hc : corner < 5) :
    Calls Try.prog 52 #[.slice A L.length c, .int .i64 (corner : Int)] w fun e w' => e = .returned (.agg #[.bool (reachW L corner 0), .bool (reachW L corner 1), .bool (reachW L corner 2), .bool (reachW L corner 3), .bool (reachW L corner 4)]) ∧ Below w.heap.size w w' := by
  have HLT := Lib.hid hlt
  have HT := Lib.hid ht
  have hc0 : (0 : Int) ≤ corner := by omega
  have hc5 : (corner : Int) < 5 := by omega
  have hb1 : Below w.heap.size w (w.alloc (.cells #[.bool false, .bool false, .bool false, .bool false, .bool false] 69)) := (Below.refl _ _).alloc (Nat.le_refl _) _
  have HB := Lib.hid (And.intro (by have := BoolsAt.begin (w.alloc (.cells #[.bool false, .bool false, .bool false, .bool false, .bool false] 69)) w.heap.size corner (by simp) hc; rwa [World.size_alloc] at this) (And.intro ((BoolsAt.new w (fun _ => false) w.heap.size (Nat.le_refl _) (fun _ _ => rfl)).keep ((Below.refl _ _).alloc (Nat.le_refl _) (oneOf corner))) (hb1.alloc (by simp) (oneOf corner))))
  clear hlt ht hb1
  go_enter Try.func52, Try.ntmps52
  go_wp2_with fail
  go_loopw [12] (fun i wr => ∃ (k : Nat), k ≤ L.length ∧ i = .int .i64 k ∧ BoolsAt wr w.heap.size (w.heap.size + 1) (sweepsW L (startAt corner) k) ∧ BoolsAt wr w.heap.size w.heap.size (fun _ => false) ∧ Below w.heap.size w wr) (fun i _ => L.length - (intOf i).toNat)
  case atStart => exact ⟨0, by omega, rfl, HB.out.1, HB.out.2.1, HB.out.2.2⟩
  case round =>
    obtain ⟨k, hk, rfl, h1, h2, h3⟩ := hrel
    have H2 := Lib.hid h2
    have H3 := Lib.hid h3
    have hz := h3.size
    clear h2 h3
    by_cases hlt : k < L.length
    · obtain ⟨R, hR⟩ : ∃ R, sweepsW L (startAt corner) k = R := ⟨_, rfl⟩
      have HR := Lib.hid (show sweepsW L (startAt corner) (k + 1) = sweepW L R by rw [← hR]; rfl)
      rw [hR] at h1
      have H1 := Lib.hid h1
      clear h1 hR
      go_wp2_with fail
      go_loopw [16] (fun i wr => ∃ (j : Nat), j ≤ L.length ∧ i = .int .i64 j ∧ BoolsAt wr w.heap.size (w.heap.size + 1) (sweepW (L.take j) R) ∧ BoolsAt wr w.heap.size w.heap.size (fun _ => false) ∧ Below w.heap.size w wr) (fun i _ => L.length - (intOf i).toNat)
      case atStart => exact ⟨0, by omega, rfl, H1.out, H2.out, H3.out⟩
      case round =>
        clear H1 H2 H3 hz
        obtain ⟨j, hj, rfl, h1, h2, h3⟩ := hrel
        have H2 := Lib.hid h2
        have H3 := Lib.hid h3
        have hz := h3.size
        have hzz := h2.2.1
        clear h2
        by_cases hlj : j < L.length
        · obtain ⟨r, hr⟩ : ∃ r, sweepW (L.take j) R = r := ⟨_, rfl⟩
          have HS := Lib.hid (show sweepW (L.take (j + 1)) R = rStepW r L[j] by rw [sweepW_take hlj, hr])
          rw [hr] at h1
          have H1 := Lib.hid h1
          obtain ⟨b0, o, b, rfl, hb0, p0, hb, hbase, _, p1, p2, _, p3⟩ := Town.street HT.out hlj
          have q0 := cell_keep h3 hb0 p0
          have q1 := cell_keep h3 hb p1
          have q2 := cell_keep h3 hb p2
          have q3 := cell_keep h3 hb p3
          clear p0 p1 p2 p3
          have hst : ∀ i, i < 5 → wr.cell? ⟨w.heap.size + 1, i, none⟩ = some (.bool (r i)) := h1.2.2.1
          have hsl := HLT.out _ (List.getElem_mem hlj)
          have HB2 := Lib.hid (fun (W : World) (h : Below w.heap.size w W) => h)
          obtain ⟨s, hs⟩ : ∃ s, L[j] = s := ⟨_, rfl⟩
          rw [hs] at q1 q2 q3 hsl
          obtain ⟨⟨x, y, l⟩, m⟩ := s
          have HSJ := Lib.hid hs
          dsimp only at q1 q2 q3 hsl
          have hx := hst x hsl.1
          have hy := hst y hsl.2
          have hfz := h1.2.2.2
          have hfx := hfz x
          have hfy := hfz y
          have hbg : b ≠ w.heap.size + 1 := by omega
          have hx0 : (0 : Int) ≤ x := by omega
          have hx5 : (x : Int) < 5 := by omega
          have hy0 : (0 : Int) ≤ y := by omega
          have hy5 : (y : Int) < 5 := by omega
          have hjl : (j : Int) < L.length := by omega
          have hj0 : (0 : Int) ≤ j := by omega
          clear hs hst hsl h1 h3 hfz
          cases m with
          | true =>
            have HF := Lib.hid (show BoolsAt wr w.heap.size (w.heap.size + 1) (sweepW (L.take (j + 1)) R) by rw [HS.out, HSJ.out]; exact H1.out)
            clear hx hy
            go_wp2_with fail
            go_roundw
            case rel => exact ⟨j + 1, by omega, by go_num, HF.out, H2.out, H3.out⟩
            case measure => simp [intOf]; omega
          | false =>
            cases hrx : r x with
            | false =>
              cases hry : r y with
              | false =>
                have HF := Lib.hid (show BoolsAt wr w.heap.size (w.heap.size + 1) (sweepW (L.take (j + 1)) R) by rw [HS.out, HSJ.out]; show BoolsAt _ _ _ (rStep r _); rw [rStep_no (by dsimp only; rw [hrx, hry]; rfl)]; exact H1.out)
                rw [hrx] at hx
                rw [hry] at hy
                clear hrx hry
                go_wp2_with fail
                go_roundw
                case rel => exact ⟨j + 1, by omega, by go_num, HF.out, H2.out, H3.out⟩
                case measure => simp [intOf]; omega
              | true =>
                have HF := Lib.hid (show ∀ i, rStepW r L[j] i = (r i || (i == x || i == y)) by intro i; rw [HSJ.out]; exact rStep_yes (by dsimp only; rw [hrx, hry]; rfl) i)
                rw [hrx] at hx
                rw [hry] at hy
                clear hrx hry
                have hBO := H1.out.both (show x < 5 by omega) (show y < 5 by omega) HF.out
                obtain ⟨f1, f2, f3, f4⟩ := hBO
                rw [← HS.out] at f1 f2
                have HF1 := Lib.hid (And.intro f1 (And.intro (((H2.out.other (show w.heap.size + 1 ≠ w.heap.size by omega) (i := x) (.bool true)).other (show w.heap.size + 1 ≠ w.heap.size by omega) (i := y) (.bool true)).keep (below_drewT _)) (below_drew ((H3.out.setCell (p := ⟨w.heap.size + 1, x, none⟩) (by show w.heap.size ≤ w.heap.size + 1; omega) (.bool true)).setCell (p := ⟨w.heap.size + 1, y, none⟩) (by show w.heap.size ≤ w.heap.size + 1; omega) (.bool true)))))
                have HF2 := Lib.hid (And.intro f2 (And.intro (((H2.out.other (show w.heap.size + 1 ≠ w.heap.size by omega) (i := y) (.bool true)).other (show w.heap.size + 1 ≠ w.heap.size by omega) (i := x) (.bool true)).keep (below_drewT _)) (below_drew ((H3.out.setCell (p := ⟨w.heap.size + 1, y, none⟩) (by show w.heap.size ≤ w.heap.size + 1; omega) (.bool true)).setCell (p := ⟨w.heap.size + 1, x, none⟩) (by show w.heap.size ≤ w.heap.size + 1; omega) (.bool true)))))
                clear f1 f2
                go_wp2_with fail
                go_region
                all_goals
                  clear f3 f4
                  go_wp2_with fail
                  go_roundw
                  case rel => first | exact ⟨j + 1, by omega, by go_num, HF1.out.1, HF1.out.2.1, HF1.out.2.2⟩ | exact ⟨j + 1, by omega, by go_num, HF2.out.1, HF2.out.2.1, HF2.out.2.2⟩
                  case measure => simp [intOf]; omega
            | true =>
              have HF := Lib.hid (show ∀ i, rStepW r L[j] i = (r i || (i == x || i == y)) by intro i; rw [HSJ.out]; exact rStep_yes (by dsimp only; rw [hrx]; rfl) i)
              rw [hrx] at hx
              clear hrx
              have hBO := H1.out.both (show x < 5 by omega) (show y < 5 by omega) HF.out
              obtain ⟨f1, f2, f3, f4⟩ := hBO
              rw [← HS.out] at f1 f2
              have HF1 := Lib.hid (And.intro f1 (And.intro (((H2.out.other (show w.heap.size + 1 ≠ w.heap.size by omega) (i := x) (.bool true)).other (show w.heap.size + 1 ≠ w.heap.size by omega) (i := y) (.bool true)).keep (below_drewT _)) (below_drew ((H3.out.setCell (p := ⟨w.heap.size + 1, x, none⟩) (by show w.heap.size ≤ w.heap.size + 1; omega) (.bool true)).setCell (p := ⟨w.heap.size + 1, y, none⟩) (by show w.heap.size ≤ w.heap.size + 1; omega) (.bool true)))))
              have HF2 := Lib.hid (And.intro f2 (And.intro (((H2.out.other (show w.heap.size + 1 ≠ w.heap.size by omega) (i := y) (.bool true)).other (show w.heap.size + 1 ≠ w.heap.size by omega) (i := x) (.bool true)).keep (below_drewT _)) (below_drew ((H3.out.setCell (p := ⟨w.heap.size + 1, y, none⟩) (by show w.heap.size ≤ w.heap.size + 1; omega) (.bool true)).setCell (p := ⟨w.heap.size + 1, x, none⟩) (by show w.heap.size ≤ w.heap.size + 1; omega) (.bool true)))))
              clear f1 f2
              go_wp2_with fail
              go_region
              all_goals
                clear f3 f4
                go_wp2_with fail
                go_roundw
                case rel => first | exact ⟨j + 1, by omega, by go_num, HF1.out.1, HF1.out.2.1, HF1.out.2.2⟩ | exact ⟨j + 1, by omega, by go_num, HF2.out.1, HF2.out.2.1, HF2.out.2.2⟩
                case measure => simp [intOf]; omega
        · have hjj : j = L.length := by omega
          subst hjj
          have HE := Lib.hid (show BoolsAt wr w.heap.size (w.heap.size + 1) (sweepsW L (startAt corner) (k + 1)) by rw [HR.out]; rw [List.take_length] at h1; exact h1)
          clear h1
          go_wp2_with fail
          go_roundw
          case rel => exact ⟨k + 1, by omega, by go_num, HE.out, H2.out, H3.out⟩
          case measure => simp [intOf]; omega
    · have hkk : k = L.length := by omega
      subst hkk
      obtain ⟨_, _, h4, h5⟩ := h1
      have c0 := h4 0 (by omega)
      have c1 := h4 1 (by omega)
      have c2 := h4 2 (by omega)
      have c3 := h4 3 (by omega)
      have c4 := h4 4 (by omega)
      obtain ⟨_, d, d5, d6⟩ := H2.out
      have d0 := d5 0 (by omega)
      have d1 := d5 1 (by omega)
      have d2 := d5 2 (by omega)
      have d3 := d5 3 (by omega)
      have d4 := d5 4 (by omega)
      have e0 := d6 0
      have e1 := d6 1
      have e2 := d6 2
      have e3 := d6 3
      have e4 := d6 4
      clear h4 h5 d5 d6
      have HBR := Lib.hid (reach_end (L := L) (corner := corner))
      go_wp2_with fail
      refine bodyPost_ret (v := .agg #[.bool (sweepsW L (startAt corner) L.length 0), .bool (sweepsW L (startAt corner) L.length 1), .bool (sweepsW L (startAt corner) L.length 2), .bool (sweepsW L (startAt corner) L.length 3), .bool (sweepsW L (startAt corner) L.length 4)]) (by simp [results, Try.results52, go_sem, d0, d1, d2, d3, d4]) rfl ⟨rfl, ?_⟩
      exact ((((H3.out.setCell (p := ⟨w.heap.size, 0, none⟩) (Nat.le_refl _) _).setCell (p := ⟨w.heap.size, 1, none⟩) (Nat.le_refl _) _).setCell (p := ⟨w.heap.size, 2, none⟩) (Nat.le_refl _) _).setCell (p := ⟨w.heap.size, 3, none⟩) (Nat.le_refl _) _).setCell (p := ⟨w.heap.size, 4, none⟩) (Nat.le_refl _) _
end Go.Proofs.Ytjklnknlifpidaa
