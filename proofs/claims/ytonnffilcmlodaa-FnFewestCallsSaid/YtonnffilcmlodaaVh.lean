/- The walk of FnExactFewestCalls. No condition. -/
import Derived.Test.YtonnffilcmlodaaVg
import Derived.Test.YtonnffilcmlodaaEx
namespace Go.Proofs.Ytonnffilcmlodaa
open Go.RowKit

theorem specFewest_b (n : Int) (w : World) : Calls Try.prog 29 #[.int .i64 n] w fun e w' => e = .returned (.int .i64 (fewI n)) ∧ Below w.heap.size w w' := (specFewest_any n w).mono fun _ _ ⟨h1, h2⟩ => ⟨h1, by rw [← h2]; exact Below.refl _ _⟩
theorem impFewest_b (n : Int) (w : World) : Calls Try.prog 23 #[.int .i64 n] w fun e w' => e = .returned (.int .i64 (fewI n)) ∧ Below w.heap.size w w' := (impFewest_any n w).mono fun _ _ ⟨h1, h2⟩ => ⟨h1, by rw [← h2]; exact Below.refl _ _⟩

set_option maxRecDepth 100000 in
set_option maxHeartbeats 8000000 in
theorem fnExactFewestCalls_law (n : Int) (w : World) (_hn : (Lit.int .i64 n).wf = true) :
    Calls Try.prog 12 #[.int .i64 n] w fun e w' => e = .returned (.bool true) ∧ Below w.heap.size w w' := by
  have hbn : -9223372036854775808 ≤ n ∧ n ≤ 9223372036854775807 := int_bd _hn
  obtain ⟨hlon, hhin⟩ := hbn
  clear _hn
  obtain ⟨q, hq⟩ : ∃ q, fewI n = q := ⟨_, rfl⟩
  have HV := Lib.hid hq
  clear hq
  go_enter Try.func12, Try.ntmps12
  have p0 := Below.refl w.heap.size w
  have z0 : w.heap.size ≤ w.heap.size := Nat.le_refl _
  go_wp2_with fail
  refine (specFewest_b _ _).mono ?_
  rw [HV.out]
  rintro e w1 ⟨rfl, e1⟩
  have z1 := e1.size
  have p1 := p0.trans (e1.mono (by omega))
  clear p0 e1
  go_wp2_with fail
  refine (impFewest_b _ _).mono ?_
  rw [HV.out]
  rintro e w2 ⟨rfl, e2⟩
  have z2 := e2.size
  have p2 := p1.trans (e2.mono (by omega))
  clear p1 e2
  have hqq : (q != q) = false := by simp
  go_wp2_with fail
  go_ret
  exact ⟨rfl, p2⟩
end Go.Proofs.Ytonnffilcmlodaa
