/- Travellers: frugal and late. No condition. -/
import Derived.Test.YtimbkclhkepgfaaKa
import Derived.StillTailTactics
import Derived.WalkLawsBesides
namespace Go.Proofs.Ytimbkclhkepgfaa
open Go.RowKit

set_option maxRecDepth 100000 in
set_option maxHeartbeats 4000000 in
theorem frugalTake_any (b p l q d : Nat) (xp xq : Int) (w : World) (hb : b < w.heap.size) (hp : p < 5) (hq : q < 5) (hcp : w.cell? ⟨b, 1 + p, none⟩ = some (.int .i64 xp)) (hcq : w.cell? ⟨b, 6 + q, none⟩ = some (.int .i64 xq)) (hf : w.frozen? ⟨b, 6 + q, none⟩ = false)
    (hx : -1 ≤ xp) (hx6 : xp ≤ 60) (hy : -1 ≤ xq) (hy6 : xq ≤ 60) :
    Calls Try.prog 75 #[.pointer (some ⟨b, 0, none⟩), .agg #[.int .i64 p, .int .i64 l, .int .i64 q, .int .i64 d]] w (StepE w b (6 + q) d (inT xp l && isE xq d)) := by
  obtain ⟨r, hr⟩ : ∃ r, inT xp l = r := ⟨_, rfl⟩
  have HR := Lib.hid hr
  have HI := Lib.hid (fun (W : World) (hW : Below w.heap.size w W) => inTimeFor_any b 1 p l q d xp W (Nat.lt_of_lt_of_le hb hW.size) hp ((hW.cell (p := ⟨b, 1 + p, none⟩) hb).trans hcp) hx hx6)
  have HC := Lib.hid (fun (W : World) (hW : Below w.heap.size w W) => comeBy_any b 6 p l q d xq W (Nat.lt_of_lt_of_le hb hW.size) hq ((hW.cell (p := ⟨b, 6 + q, none⟩) hb).trans hcq) ((hW.frozen (p := ⟨b, 6 + q, none⟩) hb).trans hf) hy hy6)
  rw [hr]
  rw [hr] at HI
  have q4 : Below w.heap.size w (w.alloc (.cells #[.int .i64 p, .int .i64 l, .int .i64 q, .int .i64 d] 65)).drew := below_drew ((Below.refl _ _).alloc (Nat.le_refl _) _)
  have HQ4 := Lib.hid q4
  clear hr hcp hcq hf q4
  cases r with
  | false =>
    go_enter Try.func75, Try.ntmps75
    go_wp2
    go_region_with (go_at_call 73; refine (HI.out _ HQ4.out).mono ?_; rintro e w5 ⟨rfl, b5⟩)
    all_goals go_wp2
    all_goals go_end0
    all_goals exact ⟨rfl, StepW.no (HQ4.out.trans (b5.mono HQ4.out.size))⟩
  | true =>
    go_enter Try.func75, Try.ntmps75
    go_wp2
    go_region_with (go_at_call 73; refine (HI.out _ HQ4.out).mono ?_; rintro e w5 ⟨rfl, b5⟩)
    all_goals
      have hb5 := HQ4.out.trans (b5.mono HQ4.out.size)
      have hb6 := below_drew hb5
      obtain ⟨k0, k1, k2, k3⟩ := (box_new w p l q d).keep (by show w.heap.size < (w.alloc _).heap.size; simp) b5
      have HB6 := Lib.hid hb6
      clear b5 hb5 hb6
      go_wp2
      go_region_with (go_at_call 74; refine (HC.out _ HB6.out).mono ?_; rintro e w6 ⟨rfl, s6⟩)
      all_goals
        go_wp2
        go_end0
        exact ⟨rfl, by simpa using s6.after HB6.out⟩

set_option maxRecDepth 100000 in
set_option maxHeartbeats 4000000 in
theorem lateTake_any (b p l q d : Nat) (xp xq : Int) (w : World) (hb : b < w.heap.size) (hp : p < 5) (hq : q < 5) (hcp : w.cell? ⟨b, p, none⟩ = some (.int .i64 xp)) (hcq : w.cell? ⟨b, q, none⟩ = some (.int .i64 xq)) (hf : w.frozen? ⟨b, p, none⟩ = false)
    (_hx : -1 ≤ xp) (_hx6 : xp ≤ 60) (_hy : -1 ≤ xq) (_hy6 : xq ≤ 60) :
    Calls Try.prog 77 #[.pointer (some ⟨b, 0, none⟩), .agg #[.int .i64 p, .int .i64 l, .int .i64 q, .int .i64 d]] w (StepE w b p (max xp (l : Int)) (decide ((d : Int) ≤ xq))) := by
  have hpI : (p : Int) < 5 := by omega
  have hp0 : (0 : Int) ≤ p := by omega
  have hqI : (q : Int) < 5 := by omega
  have hq0 : (0 : Int) ≤ q := by omega
  have HBX := Lib.hid (box_new w p l q d)
  by_cases h : (d : Int) ≤ xq
  · have hd : decide ((d : Int) ≤ xq) = true := decide_eq_true h
    have HV := Lib.hid hd
    clear h
    go_enter Try.func77, Try.ntmps77
    go_wp2
    go_quiet (fail)
    go_simp
    obtain ⟨W0, hW0⟩ : ∃ W0, (w.alloc (.cells #[.int .i64 p, .int .i64 l, .int .i64 q, .int .i64 d] 65)).drewN nq = W0 := ⟨_, rfl⟩
    have hbb : Below w.heap.size w W0 := by rw [← hW0]; exact below_drewN ((Below.refl _ _).alloc (Nat.le_refl _) _) nq
    have hbx : BoxAt W0 w.heap.size p l q d := by rw [← hW0]; exact HBX.out
    obtain ⟨k0, k1, k2, k3⟩ := hbx
    have m1 := (hbb.cell (p := ⟨b, p, none⟩) hb).trans hcp
    have m2 := (hbb.frozen (p := ⟨b, p, none⟩) hb).trans hf
    have HBB := Lib.hid hbb
    rw [hW0]
    clear hW0 hbb hd hcp hcq hf
    go_wp2
    go_still_tail 16, (by kernel_rfl)
    change wpList _ _ _ _ _ W0.drew
    go_wp2
    all_goals
      go_end0
      refine ⟨rfl, W0.drew, below_drew HBB.out, ?_⟩
      rw [HV.out]
      first
        | (rw [show max xp (l : Int) = (l : Int) by omega]; rfl)
        | (rw [show max xp (l : Int) = xp by omega]; rfl)
  · have hd : decide ((d : Int) ≤ xq) = false := decide_eq_false h
    have HV := Lib.hid hd
    clear h
    go_enter Try.func77, Try.ntmps77
    go_wp2
    go_quiet (fail)
    go_simp
    clear hd
    go_wp2
    go_end0
    rw [HV.out]
    exact ⟨rfl, StepW.no (below_drewN ((Below.refl _ _).alloc (Nat.le_refl _) _) _)⟩
end Go.Proofs.Ytimbkclhkepgfaa
