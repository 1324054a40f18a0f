/- The rates, one after the other: an iterator. No condition. -/
import Derived.Test.YtookdmdlpglbcabY1
import Derived.RangeFuncNested
import Derived.RangeFuncBound
import Derived.RangeFuncCalls
import Derived.RangeFuncLeaves
import Derived.RangeFuncBox
import Derived.Shelf.Abstract
import Derived.Shelf.RegionOpen
import Derived.WalkKit
import Derived.OwnWalkIn
import Derived.TacticsInMore
import Derived.LoopNIn
import Derived.LoopIn
namespace Go.Proofs.Ytookdmdlpglbcab
open Go.RowKit
open Go.Shelf
attribute [local go_sem] Oper.semAt_some

/-- A rate. -/
abbrev Rate := { n : Nat // n ≤ 140 }
abbrev encR (x : Rate) : Array Value := #[.int .i64 (x.1 : Int)]

theorem range'_last (f k : Nat) : List.range' f (k + 1) = List.range' f k ++ [f + k] := by
  rw [List.range'_concat]; simp

theorem rates1_in (F : Fence) (n : Nat) (hF : F.fn 49) (hro : F.round = none) (hn : 1 ≤ n) (l Bs f : Nat) (hf : f ≤ 141) (Kp : World → World → Prop) (J Jx : List Rate → World → Prop)
    (hY : ∀ pre x W, J pre W → pre.length < 141 → YieldAt F (n - 1) Try.prog l (encR x) W fun e W' =>
      (e = .returned (.bool true) ∧ J (pre ++ [x]) W' ∧ Kp W W') ∨ (e = .returned (.bool false) ∧ Jx (pre ++ [x]) W'))
    (W : World) (hBs : W.cell? ⟨Bs, 0, none⟩ = some (.int .i64 (f : Int))) (h0 : J [] W) :
    CallsIn F n Try.prog 49 #[.func (.yield l) #[] #[], .pointer (some ⟨Bs, 0, none⟩)] W fun e W' => (∃ v, e = .returned v) ∧
      ((∃ ys : List Rate, ys.map (·.1) = List.range' f (141 - f) ∧ J ys W') ∨ (∃ pre : List Rate, (∃ k, k ≤ 141 - f ∧ pre.map (·.1) = List.range' f k) ∧ Jx pre W')) := by
  refine callsIn_of_wp Try.func49 rfl hF ?_ hro
  simp only [Try.ntmps49, List.size_toArray, List.length_cons, List.length_nil, Nat.reduceAdd, Nat.reduceSub, Array.replicate_succ, Array.replicate_zero, List.push_toArray, List.append_toArray, List.nil_append, List.cons_append]
  gi_wp2
  gi_loopw [3] (fun i wr => ∃ (k : Nat) (pre : List Rate), k ≤ 141 - f ∧ i = .int .i64 ((f + k : Nat) : Int) ∧ pre.map (·.1) = List.range' f k ∧ J pre wr)
    (fun i _ => 141 - (intOf i).toNat)
  case atStart => exact ⟨0, [], by omega, by simp, rfl, h0⟩
  case round =>
    obtain ⟨k, pre, hk, rfl, hp, hJs⟩ := hrel
    have HP := Lib.hid hp
    have hlen : pre.length = k := by have := congrArg List.length hp; simpa using this
    clear hp
    obtain ⟨r, hr⟩ : ∃ r, f + k = r := ⟨_, rfl⟩
    rw [hr]
    by_cases hlt : r ≤ 140
    · have hlt' : (r : Int) ≤ 140 := by omega
      obtain ⟨fn, tmps, assign, body, hy, hR⟩ := hY pre ⟨r, hlt⟩ wr hJs (by omega)
      dsimp only [encR] at hy
      have HR := Lib.hid hr
      clear hr hlen
      gi_wp2
      refine hR.mono ?_
      rintro e W3 (⟨rfl, hJ3, hk3⟩ | ⟨rfl, hJx3⟩)
      · gi_wp2
        go_roundw
        case rel => exact ⟨k + 1, pre ++ [⟨r, hlt⟩], by have := HR.out; omega, by have := HR.out; go_num, by rw [List.map_append, HP.out, range'_last, HR.out]; rfl, hJ3⟩
        case measure => simp [intOf]; omega
      · gi_wp2
        refine bodyPost_ret (results_none rfl _ _ _) rfl ?_
        exact ⟨⟨_, rfl⟩, .inr ⟨pre ++ [⟨r, hlt⟩], ⟨k + 1, by have := HR.out; omega, by rw [List.map_append, HP.out, range'_last, HR.out]; rfl⟩, hJx3⟩⟩
    · have hlt' : ¬ (r : Int) ≤ 140 := by omega
      have hkk : k = 141 - f := by omega
      have HE := Lib.hid (show pre.map (·.1) = List.range' f (141 - f) by rw [← hkk]; exact HP.out)
      clear hkk hr hlen
      gi_wp2
      go_end0
      exact ⟨⟨_, rfl⟩, .inl ⟨pre, HE.out, hJs⟩⟩

/-- The iterator's contract. -/
theorem rates_stops (F : Fence) (n : Nat) (hF : F.fn 49) (hro : F.round = none) (hn : 1 ≤ n) (Bs f : Nat) (hf : f ≤ 141) (Kp : World → World → Prop) (w : World) (hB : Bs < w.heap.size) (hc : w.cell? ⟨Bs, 0, none⟩ = some (.int .i64 (f : Int))) :
    SeqStopsK F n Try.prog 49 #[.pointer (some ⟨Bs, 0, none⟩)] encR Kp (fun ys => ys.map (·.1) = List.range' f (141 - f)) (fun pre => ∃ k, k ≤ 141 - f ∧ pre.map (·.1) = List.range' f k) 141 w :=
  fun l J Jx W hW _ _ hY h0 => rates1_in F n hF hro hn l Bs f hf Kp J Jx hY W ((hW.cell (p := ⟨Bs, 0, none⟩) hB).trans hc) h0

set_option maxRecDepth 100000 in
theorem ratesFrom_any (f : Int) (w : World) :
    Calls Try.prog 44 #[.int .i64 f] w fun e w' => e = .returned (.func (.func 49) #[] #[.pointer (some ⟨w.heap.size, 0, none⟩)]) ∧ w' = w.alloc (.cells #[.int .i64 f] 3) := by
  go_enter Try.func44, Try.ntmps44
  go_wp2
  go_ret
  exact ⟨rfl, rfl⟩
end Go.Proofs.Ytookdmdlpglbcab
