/- The walk of the law FnFewestCalls. No condition. -/
import Derived.Test.YtonnffilcmlodaaV8p
import Derived.Test.YtonnffilcmlodaaVx2
import Derived.Test.YtonnffilcmlodaaVh
namespace Go.Proofs.Ytonnffilcmlodaa
open Go.RowKit

theorem fewI_lits : fewI 0 = -1 ∧ fewI 1 = 0 ∧ fewI 2 = 1 ∧ fewI 3 = 3 ∧ fewI 4 = 4 ∧ fewI 5 = 6 ∧ fewI 6 = 8 ∧ fewI 7 = 10 ∧ fewI 8 = -1 ∧ fewI 9 = -1 := by decide
theorem triI_lits : triI 1 = 0 ∧ triI 2 = 1 ∧ triI 3 = 3 ∧ triI 4 = 4 ∧ triI 5 = -1 ∧ triI 6 = -1 ∧ triI 7 = -1 := by decide
theorem impFewest_v (n f : Int) (w : World) (h : fewI n = f) : Calls Try.prog 23 #[.int .i64 n] w fun e w' => e = .returned (.int .i64 f) ∧ w = w' := by rw [← h]; exact impFewest_any n w
theorem specFewest_v (n f : Int) (w : World) (h : fewI n = f) : Calls Try.prog 29 #[.int .i64 n] w fun e w' => e = .returned (.int .i64 f) ∧ w = w' := by rw [← h]; exact specFewest_any n w
theorem impTriedC_v (n t : Int) (w : World) (h : triI n = t) : Calls Try.prog 30 #[.int .i64 n] w fun e w' => e = .returned (.int .i64 t) ∧ Below w.heap.size w w' := by rw [← h]; exact impTriedC_any n w

set_option maxRecDepth 100000 in
set_option maxHeartbeats 8000000 in
theorem fewestCalls_law (A : Option Addr) (c : Nat) (zs : List Int) (v0 : World) (hr : Own v0 0 v0.heap.size A (zs.map (Value.int .u8))) (hx : zs.length ≤ c ∧ c ≤ maxLen ∧ ∀ z ∈ zs, (Lit.int .u8 z).wf = true) :
    Calls Try.prog 6 #[.slice A zs.length c] v0 fun e w' => e = .returned (.bool true) ∧ Below v0.heap.size v0 w' := by
  have hl : zs.length ≤ 9223372036854775807 := by have := hx.1; have := hx.2.1; unfold maxLen at this; omega
  have HX := Lib.hid hx
  clear hx
  by_cases h20 : zs.length ≤ 1048576
  · go_enter Try.func6, Try.ntmps6
    go_wp2_with fail
    refine (drawFewestCalls_any _ _ _ _ hr HX.out).mono ?_
    rintro e w ⟨n, rfl, hn0, hn8, hb0⟩
    have HB0 := Lib.hid hb0
    have z00 := hb0.size
    clear hb0 hr
    have hcase : n = 0 ∨ n = 1 ∨ n = 2 ∨ n = 3 ∨ n = 4 ∨ n = 5 ∨ n = 6 ∨ n = 7 ∨ n = 8 := by omega
    clear hn0 hn8
    obtain ⟨F0, F1, F2, F3, F4, F5, F6, F7, F8, F9⟩ := fewI_lits
    obtain ⟨T1, T2, T3, T4, T5, T6, T7⟩ := triI_lits
    have HFF := Lib.hid (And.intro F0 (And.intro F1 (And.intro F2 (And.intro F3 (And.intro F4 (And.intro F5 (And.intro F6 (And.intro F7 (And.intro F8 F9)))))))))
    rcases hcase with rfl | rfl | rfl | rfl | rfl | rfl | rfl | rfl | rfl
    · have H1 := Lib.hid (fun X => impFewest_v 0 (-1) X F0)
      have H2 := Lib.hid (fun X => specFewest_v 0 (-1) X F0)
      clear F0 F1 F2 F3 F4 F5 F6 F7 F8 F9 T1 T2 T3 T4 T5 T6 T7 HFF
      go_wp2_with fail
      refine (H1.out _).mono ?_
      rintro e w1 ⟨rfl, rfl⟩
      go_wp2_with fail
      refine (H2.out _).mono ?_
      rintro e w2 ⟨rfl, rfl⟩
      go_wp2_with fail
      refine (H2.out _).mono ?_
      rintro e w3 ⟨rfl, rfl⟩
      go_wp2
      go_ret
      exact ⟨rfl, HB0.out⟩
    · have H1 := Lib.hid (fun X => impFewest_v 1 (0) X F1)
      have H2 := Lib.hid (fun X => specFewest_v 1 (0) X F1)
      have H3 := Lib.hid (fun X => impTriedC_v 1 (0) X T1)
      have H4 := Lib.hid (fun X => impFewest_v 2 (1) X F2)
      clear F0 F1 F2 F3 F4 F5 F6 F7 F8 F9 T1 T2 T3 T4 T5 T6 T7 HFF
      go_wp2_with fail
      refine (H1.out _).mono ?_
      rintro e w1 ⟨rfl, rfl⟩
      go_wp2_with fail
      refine (H2.out _).mono ?_
      rintro e w2 ⟨rfl, rfl⟩
      go_wp2_with fail
      refine (H3.out _).mono ?_
      rintro e w3 ⟨rfl, hb3⟩
      have HE := Lib.hid (HB0.out.trans (hb3.mono z00))
      clear hb3
      go_wp2_with fail
      refine (H4.out _).mono ?_
      rintro e w4 ⟨rfl, rfl⟩
      go_wp2
      go_ret
      exact ⟨rfl, HE.out⟩
    · have H1 := Lib.hid (fun X => impFewest_v 2 (1) X F2)
      have H2 := Lib.hid (fun X => specFewest_v 2 (1) X F2)
      have H3 := Lib.hid (fun X => impTriedC_v 2 (1) X T2)
      have H4 := Lib.hid (fun X => impFewest_v 3 (3) X F3)
      clear F0 F1 F2 F3 F4 F5 F6 F7 F8 F9 T1 T2 T3 T4 T5 T6 T7 HFF
      go_wp2_with fail
      refine (H1.out _).mono ?_
      rintro e w1 ⟨rfl, rfl⟩
      go_wp2_with fail
      refine (H2.out _).mono ?_
      rintro e w2 ⟨rfl, rfl⟩
      go_wp2_with fail
      refine (H3.out _).mono ?_
      rintro e w3 ⟨rfl, hb3⟩
      have HE := Lib.hid (HB0.out.trans (hb3.mono z00))
      clear hb3
      go_wp2_with fail
      refine (H4.out _).mono ?_
      rintro e w4 ⟨rfl, rfl⟩
      go_wp2
      go_ret
      exact ⟨rfl, HE.out⟩
    · have H1 := Lib.hid (fun X => impFewest_v 3 (3) X F3)
      have H2 := Lib.hid (fun X => specFewest_v 3 (3) X F3)
      have H3 := Lib.hid (fun X => impTriedC_v 3 (3) X T3)
      have H4 := Lib.hid (fun X => impFewest_v 4 (4) X F4)
      clear F0 F1 F2 F3 F4 F5 F6 F7 F8 F9 T1 T2 T3 T4 T5 T6 T7 HFF
      go_wp2_with fail
      refine (H1.out _).mono ?_
      rintro e w1 ⟨rfl, rfl⟩
      go_wp2_with fail
      refine (H2.out _).mono ?_
      rintro e w2 ⟨rfl, rfl⟩
      go_wp2_with fail
      refine (H3.out _).mono ?_
      rintro e w3 ⟨rfl, hb3⟩
      have HE := Lib.hid (HB0.out.trans (hb3.mono z00))
      clear hb3
      go_wp2_with fail
      refine (H4.out _).mono ?_
      rintro e w4 ⟨rfl, rfl⟩
      go_wp2
      go_ret
      exact ⟨rfl, HE.out⟩
    · have H1 := Lib.hid (fun X => impFewest_v 4 (4) X F4)
      have H2 := Lib.hid (fun X => specFewest_v 4 (4) X F4)
      have H3 := Lib.hid (fun X => impTriedC_v 4 (4) X T4)
      have H4 := Lib.hid (fun X => impFewest_v 5 (6) X F5)
      clear F0 F1 F2 F3 F4 F5 F6 F7 F8 F9 T1 T2 T3 T4 T5 T6 T7 HFF
      go_wp2_with fail
      refine (H1.out _).mono ?_
      rintro e w1 ⟨rfl, rfl⟩
      go_wp2_with fail
      refine (H2.out _).mono ?_
      rintro e w2 ⟨rfl, rfl⟩
      go_wp2_with fail
      refine (H3.out _).mono ?_
      rintro e w3 ⟨rfl, hb3⟩
      have HE := Lib.hid (HB0.out.trans (hb3.mono z00))
      clear hb3
      go_wp2_with fail
      refine (H4.out _).mono ?_
      rintro e w4 ⟨rfl, rfl⟩
      go_wp2
      go_ret
      exact ⟨rfl, HE.out⟩
    · have H1 := Lib.hid (fun X => impFewest_v 5 (6) X F5)
      have H2 := Lib.hid (fun X => specFewest_v 5 (6) X F5)
      have H3 := Lib.hid (fun X => impTriedC_v 5 (-1) X T5)
      have H4 := Lib.hid (fun X => impFewest_v 6 (8) X F6)
      clear F0 F1 F2 F3 F4 F5 F6 F7 F8 F9 T1 T2 T3 T4 T5 T6 T7 HFF
      go_wp2_with fail
      refine (H1.out _).mono ?_
      rintro e w1 ⟨rfl, rfl⟩
      go_wp2_with fail
      refine (H2.out _).mono ?_
      rintro e w2 ⟨rfl, rfl⟩
      go_wp2_with fail
      refine (H3.out _).mono ?_
      rintro e w3 ⟨rfl, hb3⟩
      have HE := Lib.hid (HB0.out.trans (hb3.mono z00))
      clear hb3
      go_wp2_with fail
      refine (H4.out _).mono ?_
      rintro e w4 ⟨rfl, rfl⟩
      go_wp2
      go_ret
      exact ⟨rfl, HE.out⟩
    · have H1 := Lib.hid (fun X => impFewest_v 6 (8) X F6)
      have H2 := Lib.hid (fun X => specFewest_v 6 (8) X F6)
      have H3 := Lib.hid (fun X => impTriedC_v 6 (-1) X T6)
      have H4 := Lib.hid (fun X => impFewest_v 7 (10) X F7)
      clear F0 F1 F2 F3 F4 F5 F6 F7 F8 F9 T1 T2 T3 T4 T5 T6 T7 HFF
      go_wp2_with fail
      refine (H1.out _).mono ?_
      rintro e w1 ⟨rfl, rfl⟩
      go_wp2_with fail
      refine (H2.out _).mono ?_
      rintro e w2 ⟨rfl, rfl⟩
      go_wp2_with fail
      refine (H3.out _).mono ?_
      rintro e w3 ⟨rfl, hb3⟩
      have HE := Lib.hid (HB0.out.trans (hb3.mono z00))
      clear hb3
      go_wp2_with fail
      refine (H4.out _).mono ?_
      rintro e w4 ⟨rfl, rfl⟩
      go_wp2
      go_ret
      exact ⟨rfl, HE.out⟩
    · have H1 := Lib.hid (fun X => impFewest_v 7 (10) X F7)
      have H2 := Lib.hid (fun X => specFewest_v 7 (10) X F7)
      have H3 := Lib.hid (fun X => impTriedC_v 7 (-1) X T7)
      have H4 := Lib.hid (fun X => impFewest_v 8 (-1) X F8)
      clear F0 F1 F2 F3 F4 F5 F6 F7 F8 F9 T1 T2 T3 T4 T5 T6 T7 HFF
      go_wp2_with fail
      refine (H1.out _).mono ?_
      rintro e w1 ⟨rfl, rfl⟩
      go_wp2_with fail
      refine (H2.out _).mono ?_
      rintro e w2 ⟨rfl, rfl⟩
      go_wp2_with fail
      refine (H3.out _).mono ?_
      rintro e w3 ⟨rfl, hb3⟩
      have HE := Lib.hid (HB0.out.trans (hb3.mono z00))
      clear hb3
      go_wp2_with fail
      refine (H4.out _).mono ?_
      rintro e w4 ⟨rfl, rfl⟩
      go_wp2
      go_ret
      exact ⟨rfl, HE.out⟩
    · have H1 := Lib.hid (fun X => impFewest_v 8 (-1) X F8)
      have H2 := Lib.hid (fun X => specFewest_v 8 (-1) X F8)
      clear F0 F1 F2 F3 F4 F5 F6 F7 F8 F9 T1 T2 T3 T4 T5 T6 T7 HFF
      go_wp2_with fail
      refine (H1.out _).mono ?_
      rintro e w1 ⟨rfl, rfl⟩
      go_wp2_with fail
      refine (H2.out _).mono ?_
      rintro e w2 ⟨rfl, rfl⟩
      go_wp2_with fail
      refine (H2.out _).mono ?_
      rintro e w3 ⟨rfl, rfl⟩
      go_wp2
      go_ret
      exact ⟨rfl, HB0.out⟩
  · go_enter Try.func6, Try.ntmps6
    go_wp2
    go_ret
    exact ⟨rfl, Below.refl _ _⟩
end Go.Proofs.Ytonnffilcmlodaa
