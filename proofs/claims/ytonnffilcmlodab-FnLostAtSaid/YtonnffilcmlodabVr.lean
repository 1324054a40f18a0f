/- The walk of FnExactArriveChance. No condition. -/
import Derived.Test.YtonnffilcmlodabVq
import Derived.Test.YtonnffilcmlodabG2
import Derived.Test.YtonnffilcmlodabEx
import Derived.Test.YtonnffilcmlodabEq
import Derived.Test.YtonnffilcmlodabT
namespace Go.Proofs.Ytonnffilcmlodab
open Go.RowKit

set_option maxRecDepth 100000 in
theorem eqFrac_self (u d : Nat) (w : World) :
    Calls Try.prog 20 #[frV (u, d), frV (u, d)] w fun e w' => e = .returned (.bool true) ∧ Below w.heap.size w w' := by
  have e1 : (((u : Int)) != (u : Int)) = false := by simp
  have e2 : (((d : Int)) != (d : Int)) = false := by simp
  unfold frV
  dsimp only
  go_enter Try.func20, Try.ntmps20
  go_wp2
  go_ret
  exact ⟨rfl, ((Below.refl _ _).alloc (Nat.le_refl _) _).alloc (by simp) _⟩

set_option maxRecDepth 100000 in
set_option maxHeartbeats 8000000 in
theorem fnExactArriveChance_law (Ah : Option Addr) (ch : Nat) (h : List Int) (w : World) (hrh : Ints w w.heap.size Ah h) (hxh : h.length ≤ ch ∧ ch ≤ maxLen ∧ ∀ u0 ∈ h, (Lit.int .i64 u0).wf = true) :
    Calls Try.prog 6 #[.slice Ah h.length ch] w fun e w' => e = .returned (.bool true) ∧ Below w.heap.size w w' := by
  have hlh : h.length ≤ 9223372036854775807 := by have := hxh.1; have := hxh.2.1; unfold maxLen at this; omega
  clear hxh
  by_cases h20h : h.length ≤ 1048576
  · skip
    obtain ⟨q, hq⟩ : ∃ q, arrQ h = q := ⟨_, rfl⟩
    obtain ⟨b, hb⟩ : ∃ b, hopsB h = b := ⟨_, rfl⟩
    have HV := Lib.hid hq
    have HVB := Lib.hid hb
    obtain ⟨q1, q2⟩ := q
    clear hq hb
    have HFV := Lib.hid (show frV (q1, q2) = .agg #[.int .i64 (q1 : Int), .int .i64 (q2 : Int)] from rfl)
    have HEQ := Lib.hid (fun X => eqFrac_self q1 q2 X)
    rw [HFV.out] at HEQ
    have hbb : (b != b) = false := by simp
    go_enter Try.func6, Try.ntmps6
    have HEh := Lib.hid (eqISelf h)
    have ah0 := hrh
    clear hrh
    have p0 := Below.refl w.heap.size w
    have z0 : w.heap.size ≤ w.heap.size := Nat.le_refl _
    go_wp2_with fail
    refine (toIntS_cap _ _ _ _ (ah0.more (by omega)) (by omega)).mono ?_
    rintro e w1 ⟨A1, c1, rfl, hc1, o1, e1⟩
    have z1 := e1.size
    have ah1 := ah0.keep (by omega) e1
    clear ah0
    have th1 := o1
    clear o1
    have p1 := p0.trans (e1.mono (by omega))
    clear p0 e1
    go_wp2_with fail
    refine (specArrive_any _ _ _ _ (th1.row.more (by omega)) (by omega)).mono ?_
    rw [HV.out, HVB.out, HFV.out]
    rintro e w2 ⟨rfl, e2⟩
    have z2 := e2.size
    have ah2 := ah1.keep (by omega) e2
    clear ah1 th1
    have p2 := p1.trans (e2.mono (by omega))
    clear p1 e2
    obtain ⟨W, hW⟩ : ∃ W, w2.alloc (.cells #[.int .i64 (q1 : Int), .int .i64 (q2 : Int)] 26) = W := ⟨_, rfl⟩
    have eW : Below w2.heap.size w2 W := by rw [← hW]; exact (Below.refl _ _).alloc (Nat.le_refl _) _
    have hWz : W.heap.size = w2.heap.size + 1 := by rw [← hW]; simp
    have HC0 := Lib.hid (show VarQ W w2.heap.size (q1, q2) by rw [← hW]; exact VarQ.of (heap_alloc_new _ _))
    have zW := eW.size
    have ahW := ah2.keep (by omega) eW
    have pW := p2.trans (eW.mono (by omega))
    clear ah2 p2 eW
    go_wp2_with fail
    refine (toIntS_cap _ _ _ _ (ahW.more (by omega)) (by omega)).mono ?_
    rintro e w3 ⟨A3, c3, rfl, hc3, o3, e3⟩
    have z3 := e3.size
    have ah3 := ahW.keep (by omega) e3
    have HC3 := Lib.hid (HC0.out.keep e3 (by omega))
    have xh3 := o3
    clear o3 ahW
    have p3 := pW.trans (e3.mono (by omega))
    clear pW e3
    clear hW
    go_wp2_with fail
    refine (impArrive_any _ _ _ _ (xh3.row.more (by omega)) (by omega)).mono ?_
    rw [HV.out, HVB.out, HFV.out]
    rintro e w4 ⟨rfl, e4⟩
    have z4 := e4.size
    have ah4 := ah3.keep (by omega) e4
    have xh4 := xh3.keep (by omega) e4
    have HC4 := Lib.hid (HC3.out.keep e4 (by omega))
    clear ah3 xh3
    have p4 := p3.trans (e4.mono (by omega))
    clear p3 e4
    obtain ⟨V, hV⟩ : ∃ V, w4.alloc (.cells #[.int .i64 (q1 : Int), .int .i64 (q2 : Int)] 26) = V := ⟨_, rfl⟩
    have eV : Below w4.heap.size w4 V := by rw [← hV]; exact (Below.refl _ _).alloc (Nat.le_refl _) _
    have hVz : V.heap.size = w4.heap.size + 1 := by rw [← hV]; simp
    have HD0 := Lib.hid (show VarQ V w4.heap.size (q1, q2) by rw [← hV]; exact VarQ.of (heap_alloc_new _ _))
    have HCV := HC4.out.keep eV (by omega)
    have zV := eV.size
    have ahV := ah4.keep (by omega) eV
    have xhV := xh4.keep (by omega) eV
    have pV := p4.trans (eV.mono (by omega))
    clear ah4 xh4 p4 eV
    obtain ⟨a0, a1, _, _, _⟩ := HCV
    obtain ⟨b0, b1, _, _, _⟩ := HD0.out
    dsimp only at a0 a1 b0 b1
    go_wp2_with fail
    refine (HEQ.out _).mono ?_
    rintro e w5 ⟨rfl, e5⟩
    have z5 := e5.size
    have ah5 := ahV.keep (by omega) e5
    have xh5 := xhV.keep (by omega) e5
    have p5 := pV.trans (e5.mono (by omega))
    clear ahV xhV pV e5 hV a0 a1 b0 b1
    go_wp2_with fail
    refine (toIntS_cap _ _ _ _ (ah5.more (by omega)) (by omega)).mono ?_
    rintro e w6 ⟨A6, c6, rfl, hc6, o6, e6⟩
    have z6 := e6.size
    have xh6 := xh5.keep (by omega) e6
    have p6 := p5.trans (e6.mono (by omega))
    clear p5 e6 xh5 ah5
    go_wp2_with fail
    refine (eqIntS_any _ _ _ _ _ _ _ (xh6.row.more (by omega)) (o6.row.more (by omega)) (by omega)).mono ?_
    rw [HEh.out]
    rintro e w7 ⟨rfl, n7, hw7⟩
    have e7 : Below w6.heap.size w6 w7 := by rw [hw7]; exact drewBelow _ _
    clear hw7
    have p7 := p6.trans (e7.mono (by omega))
    clear p6 e7
    go_wp2_with fail
    go_ret
    exact ⟨rfl, p7⟩
  · go_enter Try.func6, Try.ntmps6
    go_wp2
    go_ret
    exact ⟨rfl, Below.refl _ _⟩
end Go.Proofs.Ytonnffilcmlodab
