/- Travellers: inTimeFor, comeBy and the three ways to take a coach. No condition. -/
import Derived.Test.YtimbkclhkepgfaaK7
namespace Go.Proofs.Ytimbkclhkepgfaa
open Go.RowKit

/-- Five times in block b from offset k on. -/
structure T5 (w : World) (b k : Nat) (t : List Int) : Prop where
  lt : b < w.heap.size
  cell : ∀ i, i < 5 → w.cell? ⟨b, k + i, none⟩ = some (.int .i64 (t.getD i 0))
  froz : ∀ j, w.frozen? ⟨b, j, none⟩ = false
theorem T5.keep {w w' : World} {b k : Nat} {t : List Int} (h : T5 w b k t) (hb : Below w.heap.size w w') : T5 w' b k t :=
  ⟨Nat.lt_of_lt_of_le h.lt hb.size, fun i hi => (hb.cell (p := ⟨b, k + i, none⟩) h.lt).trans (h.cell i hi), fun j => (hb.frozen (p := ⟨b, j, none⟩) h.lt).trans (h.froz j)⟩
theorem T5.put {w : World} {b k : Nat} {t : List Int} (h : T5 w b k t) (hl : t.length = 5) (q : Nat) (z : Int) : T5 (w.setCell ⟨b, k + q, none⟩ (.int .i64 z)) b k (t.set q z) := by
  refine ⟨by simpa [World.setCell] using h.lt, fun i hi => ?_, fun j => by rw [World.frozen?_setCell]; exact h.froz j⟩
  by_cases hq : q = i
  · subst hq
    rw [World.cell?_setCell_same w _ _ (h.cell q hi)]
    simp [List.getD, hl, hi]
  · rw [World.cell?_setCell_other w _ _ _ (by intro e; injection e with _ e2; omega), h.cell i hi]
    simp [List.getD, hq]
theorem T5.other {w : World} {b k : Nat} {t : List Int} (h : T5 w b k t) (j : Nat) (v : Value) (hj : ∀ i, i < 5 → j ≠ k + i) : T5 (w.setCell ⟨b, j, none⟩ v) b k t :=
  ⟨by simpa [World.setCell] using h.lt, fun i hi => by rw [World.cell?_setCell_other w _ _ _ (by intro e; injection e with _ e2; have := hj i hi; omega)]; exact h.cell i hi, fun j => by rw [World.frozen?_setCell]; exact h.froz j⟩
theorem T5.apart {w w' : World} {b k : Nat} {t : List Int} {row : Option Nat} (h : T5 w b k t) (hg : w.grownBy w' row) (hr : ∀ i, row = some i → i ≠ b) : T5 w' b k t := by
  have hb := hg.block b h.lt (fun e => hr b e.symm rfl)
  exact ⟨Nat.lt_of_lt_of_le h.lt hg.size, fun i hi => (World.cell?_of_block (a := ⟨b, k + i, none⟩) hb).trans (h.cell i hi), fun j => (World.frozen?_of_block (a := ⟨b, j, none⟩) hb).trans (h.froz j)⟩

/-- What a step did: what is new, and the one number, if it was taken. -/
def StepW (w : World) (b off : Nat) (z : Int) (taken : Bool) (w' : World) : Prop :=
  ∃ w1, Below w.heap.size w w1 ∧ w' = if taken = true then w1.setCell ⟨b, off, none⟩ (.int .i64 z) else w1
def StepE (w : World) (b off : Nat) (z : Int) (taken : Bool) (e : Ending) (w' : World) : Prop := e = .returned (.tuple #[]) ∧ StepW w b off z taken w'

/-- In time: xp is the time at the stop, l when the coach leaves. -/
def inT (xp l : Int) : Bool := decide (0 ≤ xp) && decide (xp ≤ l)
/-- Earlier: xq is the time at the stop, d when the coach comes. -/
def isE (xq d : Int) : Bool := decide (xq < 0) || decide (d < xq)

set_option maxRecDepth 100000 in
set_option maxHeartbeats 2000000 in
theorem inTimeFor_any (b k p l q d : Nat) (xp : Int) (w : World) (hb : b < w.heap.size) (hp : p < 5) (hc : w.cell? ⟨b, k + p, none⟩ = some (.int .i64 xp)) (hx : -1 ≤ xp) (hx6 : xp ≤ 60) :
    Calls Try.prog 73 #[.pointer (some ⟨b, k, none⟩), .agg #[.int .i64 p, .int .i64 l, .int .i64 q, .int .i64 d]] w fun e w' => e = .returned (.bool (inT xp l)) ∧ Below w.heap.size w w' := by
  have hpI : (p : Int) < 5 := by omega
  have hp0 : (0 : Int) ≤ p := by omega
  by_cases h0 : 0 ≤ xp
  · have hne : (xp != -1) = true := by simp; omega
    by_cases h1 : xp ≤ (l : Int)
    · have hd : decide (xp ≤ (l : Int)) = true := decide_eq_true h1
      have HV := Lib.hid (show inT xp l = true by simp [inT, h0, h1])
      clear h0 h1
      go_enter Try.func73, Try.ntmps73
      go_wp2
      go_quiet (fail)
      go_simp
      go_wp2
      go_ret
      exact ⟨ret_bool HV.out.symm, below_drewN ((Below.refl _ _).alloc (Nat.le_refl _) _) _⟩
    · have hd : decide (xp ≤ (l : Int)) = false := decide_eq_false h1
      have HV := Lib.hid (show inT xp l = false by simp [inT, h0, h1])
      clear h0 h1
      go_enter Try.func73, Try.ntmps73
      go_wp2
      go_quiet (fail)
      go_simp
      go_wp2
      go_ret
      exact ⟨ret_bool HV.out.symm, below_drewN ((Below.refl _ _).alloc (Nat.le_refl _) _) _⟩
  · have hne : (xp != -1) = false := by simp; omega
    have HV := Lib.hid (show inT xp l = false by simp [inT, h0])
    clear h0
    go_enter Try.func73, Try.ntmps73
    go_wp2
    go_quiet (fail)
    go_simp
    go_wp2
    go_ret
    exact ⟨ret_bool HV.out.symm, below_drewN ((Below.refl _ _).alloc (Nat.le_refl _) _) _⟩

set_option maxRecDepth 100000 in
set_option maxHeartbeats 4000000 in
theorem comeBy_any (b k p l q d : Nat) (xq : Int) (w : World) (hb : b < w.heap.size) (hq : q < 5) (hc : w.cell? ⟨b, k + q, none⟩ = some (.int .i64 xq)) (hf : w.frozen? ⟨b, k + q, none⟩ = false) (hx : -1 ≤ xq) (hx6 : xq ≤ 60) :
    Calls Try.prog 74 #[.pointer (some ⟨b, k, none⟩), .agg #[.int .i64 p, .int .i64 l, .int .i64 q, .int .i64 d]] w (StepE w b (k + q) d (isE xq d)) := by
  have hqI : (q : Int) < 5 := by omega
  have hq0 : (0 : Int) ≤ q := by omega
  by_cases h0 : xq < 0
  · have hne : (xq == -1) = true := by simp; omega
    have HV := Lib.hid (show isE xq d = true by simp [isE, h0])
    clear h0
    go_enter Try.func74, Try.ntmps74
    go_wp2
    go_quiet (fail)
    go_simp
    clear hne
    go_wp2
    go_region
    all_goals go_wp2
    all_goals go_end0
    all_goals exact ⟨rfl, _, below_drew (below_drewN ((Below.refl _ _).alloc (Nat.le_refl _) (.cells #[.int .i64 p, .int .i64 l, .int .i64 q, .int .i64 d] 65)) nq), by rw [HV.out]; rfl⟩
  · have hne : (xq == -1) = false := beq_eq_false_iff_ne.2 (by omega)
    by_cases h1 : (d : Int) < xq
    · have hd : decide ((d : Int) < xq) = true := decide_eq_true h1
      have HV := Lib.hid (show isE xq d = true by simp [isE, h1])
      clear h0 h1
      go_enter Try.func74, Try.ntmps74
      go_wp2
      go_quiet (fail)
      go_simp
      clear hne hd
      go_wp2
      go_region
      all_goals go_wp2
      all_goals go_end0
      all_goals exact ⟨rfl, _, below_drew (below_drewN ((Below.refl _ _).alloc (Nat.le_refl _) (.cells #[.int .i64 p, .int .i64 l, .int .i64 q, .int .i64 d] 65)) nq), by rw [HV.out]; rfl⟩
    · have hd : decide ((d : Int) < xq) = false := decide_eq_false h1
      have HV := Lib.hid (show isE xq d = false by simp [isE, h0, h1])
      clear h0 h1
      go_enter Try.func74, Try.ntmps74
      go_wp2
      go_quiet (fail)
      go_simp
      clear hne hd
      go_wp2
      go_end0
      refine ⟨rfl, _, below_drewN ((Below.refl _ _).alloc (Nat.le_refl _) (.cells #[.int .i64 p, .int .i64 l, .int .i64 q, .int .i64 d] 65)) nq, ?_⟩
      rw [HV.out]; rfl


/-- The coach as a value. -/
def cvN (p l q d : Nat) : Value := .agg #[.int .i64 p, .int .i64 l, .int .i64 q, .int .i64 d]
theorem StepW.no {w w' : World} {b off : Nat} {z : Int} (h : Below w.heap.size w w') : StepW w b off z false w' := ⟨w', h, rfl⟩
theorem StepW.after {w w1 w' : World} {b off : Nat} {z : Int} {t : Bool} (h : StepW w1 b off z t w') (hb : Below w.heap.size w w1) : StepW w b off z t w' := by
  obtain ⟨w2, h1, h2⟩ := h
  exact ⟨w2, hb.trans (h1.mono hb.size), h2⟩

/-- The coach in its box. -/
def BoxAt (w : World) (g p l q d : Nat) : Prop := w.cell? ⟨g, 0, none⟩ = some (.int .i64 p) ∧ w.cell? ⟨g, 1, none⟩ = some (.int .i64 l) ∧ w.cell? ⟨g, 2, none⟩ = some (.int .i64 q) ∧ w.cell? ⟨g, 3, none⟩ = some (.int .i64 d)
theorem box_new (w : World) (p l q d : Nat) : BoxAt (w.alloc (.cells #[.int .i64 p, .int .i64 l, .int .i64 q, .int .i64 d] 65)).drew w.heap.size p l q d := by
  refine ⟨?_, ?_, ?_, ?_⟩ <;> (show (w.alloc _).cell? _ = _; rw [World.cell?_alloc_at _ _ _ _ rfl]; rfl)
theorem BoxAt.keep {w w' : World} {g p l q d : Nat} (h : BoxAt w g p l q d) (hg : g < w.heap.size) (hb : Below w.heap.size w w') : BoxAt w' g p l q d :=
  ⟨(hb.cell (p := ⟨g, 0, none⟩) hg).trans h.1, (hb.cell (p := ⟨g, 1, none⟩) hg).trans h.2.1, (hb.cell (p := ⟨g, 2, none⟩) hg).trans h.2.2.1, (hb.cell (p := ⟨g, 3, none⟩) hg).trans h.2.2.2⟩

set_option maxRecDepth 100000 in
set_option maxHeartbeats 4000000 in
theorem earlyTake_any (b p l q d : Nat) (xp xq : Int) (w : World) (hb : b < w.heap.size) (hp : p < 5) (hq : q < 5) (hcp : w.cell? ⟨b, p, none⟩ = some (.int .i64 xp)) (hcq : w.cell? ⟨b, q, none⟩ = some (.int .i64 xq)) (hf : w.frozen? ⟨b, q, none⟩ = false)
    (hx : -1 ≤ xp) (hx6 : xp ≤ 60) (hy : -1 ≤ xq) (hy6 : xq ≤ 60) :
    Calls Try.prog 71 #[.pointer (some ⟨b, 0, none⟩), .agg #[.int .i64 p, .int .i64 l, .int .i64 q, .int .i64 d]] w (StepE w b q d (inT xp l && isE xq d)) := by
  obtain ⟨r, hr⟩ : ∃ r, inT xp l = r := ⟨_, rfl⟩
  have HR := Lib.hid hr
  have HI := Lib.hid (fun (W : World) (hW : Below w.heap.size w W) => inTimeFor_any b 0 p l q d xp W (Nat.lt_of_lt_of_le hb hW.size) hp (by rw [Nat.zero_add]; exact (hW.cell (p := ⟨b, p, none⟩) hb).trans hcp) hx hx6)
  have HC := Lib.hid (fun (W : World) (hW : Below w.heap.size w W) => comeBy_any b 0 p l q d xq W (Nat.lt_of_lt_of_le hb hW.size) hq (by rw [Nat.zero_add]; exact (hW.cell (p := ⟨b, q, none⟩) hb).trans hcq) (by rw [Nat.zero_add]; exact (hW.frozen (p := ⟨b, q, none⟩) hb).trans hf) hy hy6)
  rw [hr]
  rw [hr] at HI
  have q4 : Below w.heap.size w (w.alloc (.cells #[.int .i64 p, .int .i64 l, .int .i64 q, .int .i64 d] 65)).drew := below_drew ((Below.refl _ _).alloc (Nat.le_refl _) _)
  have HQ4 := Lib.hid q4
  clear hr hcp hcq hf q4
  cases r with
  | false =>
    go_enter Try.func71, Try.ntmps71
    go_wp2
    go_region_with (go_at_call 73; refine (HI.out _ HQ4.out).mono ?_; rintro e w5 ⟨rfl, b5⟩)
    all_goals go_wp2
    all_goals go_end0
    all_goals exact ⟨rfl, StepW.no (HQ4.out.trans (b5.mono HQ4.out.size))⟩
  | true =>
    go_enter Try.func71, Try.ntmps71
    go_wp2
    go_region_with (go_at_call 73; refine (HI.out _ HQ4.out).mono ?_; rintro e w5 ⟨rfl, b5⟩)
    all_goals
      have hb5 := HQ4.out.trans (b5.mono HQ4.out.size)
      have hb6 := below_drew hb5
      obtain ⟨k0, k1, k2, k3⟩ := (box_new w p l q d).keep (by show w.heap.size < (w.alloc _).heap.size; simp) b5
      have HB6 := Lib.hid hb6
      clear b5 hb5 hb6
      go_wp2
      go_region_with (go_at_call 74; refine (HC.out _ HB6.out).mono ?_; rintro e w6 ⟨rfl, s6⟩)
      all_goals
        go_wp2
        go_end0
        rw [Nat.zero_add] at s6
        exact ⟨rfl, by simpa using s6.after HB6.out⟩
end Go.Proofs.Ytimbkclhkepgfaa
