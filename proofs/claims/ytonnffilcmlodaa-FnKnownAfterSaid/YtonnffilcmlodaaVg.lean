/- Calls: the fewest, both sides; the law. No condition. -/
import Derived.Test.YtonnffilcmlodaaVb
namespace Go.Proofs.Ytonnffilcmlodaa
open Go.RowKit

def fewI (n : Int) : Int := if inR n 1 7 then (fewC n.toNat : Int) else -1
theorem fewI_no {n : Int} (h : inR n 1 7 = false) : fewI n = -1 := by rw [fewI, if_neg (by simp [h])]
theorem fewI_yes {n : Int} (h : inR n 1 7 = true) : fewI n = (fewC n.toNat : Int) := by rw [fewI, if_pos h]
theorem few_cases {n : Int} (h : inR n 1 7 = true) : n = 1 ∨ n = 2 ∨ n = 3 ∨ n = 4 ∨ n = 5 ∨ n = 6 ∨ n = 7 := by have := inR_iff.1 h; omega

set_option maxRecDepth 100000 in
set_option maxHeartbeats 2000000 in
theorem specFewest_any (n : Int) (w : World) :
    Calls Try.prog 29 #[.int .i64 n] w fun e w' => e = .returned (.int .i64 (fewI n)) ∧ w = w' := by
  by_cases h : inR n 1 7 = true
  · have HI := Lib.hid (fun X => by have := inRange_any n 1 7 X; rw [h] at this; exact this)
    rcases few_cases h with rfl | rfl | rfl | rfl | rfl | rfl | rfl
    all_goals
      clear h
      go_enter Try.func29, Try.ntmps29
      go_wp2_with (go_at_call 52; ((with_reducible refine (HI.out _).mono ?_); rintro e w' ⟨rfl, rfl⟩))
      go_ret
      exact ⟨rfl, rfl⟩
  · have h' : inR n 1 7 = false := by simpa using h
    have HI := Lib.hid (fun X => by have := inRange_any n 1 7 X; rw [h'] at this; exact this)
    have HF := Lib.hid (fewI_no h')
    clear h h'
    go_enter Try.func29, Try.ntmps29
    go_wp2_with (go_at_call 52; ((with_reducible refine (HI.out _).mono ?_); rintro e w' ⟨rfl, rfl⟩))
    go_ret
    exact ⟨by rw [HF.out]; rfl, rfl⟩

set_option maxRecDepth 100000 in
set_option maxHeartbeats 2000000 in
theorem impFewest_any (n : Int) (w : World) :
    Calls Try.prog 23 #[.int .i64 n] w fun e w' => e = .returned (.int .i64 (fewI n)) ∧ w = w' := by
  by_cases h : inR n 1 7 = true
  · have HI := Lib.hid (fun X => by have := canCall_any n X; rw [h] at this; exact this)
    rcases few_cases h with rfl | rfl | rfl | rfl | rfl | rfl | rfl
    all_goals
      clear h
      go_enter Try.func23, Try.ntmps23
      go_wp2_with (go_at_call 43; ((with_reducible refine (HI.out _).mono ?_); rintro e w' ⟨rfl, rfl⟩))
      go_ret
      exact ⟨rfl, rfl⟩
  · have h' : inR n 1 7 = false := by simpa using h
    have HI := Lib.hid (fun X => by have := canCall_any n X; rw [h'] at this; exact this)
    have HF := Lib.hid (fewI_no h')
    clear h h'
    go_enter Try.func23, Try.ntmps23
    go_wp2_with (go_at_call 43; ((with_reducible refine (HI.out _).mono ?_); rintro e w' ⟨rfl, rfl⟩))
    go_ret
    exact ⟨by rw [HF.out]; rfl, rfl⟩
end Go.Proofs.Ytonnffilcmlodaa
