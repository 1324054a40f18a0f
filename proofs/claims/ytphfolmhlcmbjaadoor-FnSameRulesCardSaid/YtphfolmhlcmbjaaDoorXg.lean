/- slices.Backward over rules; a list cut in two. No condition. -/
import Derived.Test.YtphfolmhlcmbjaaDoorXf
import Derived.RangeFuncNested
import Derived.RangeFuncBound
import Derived.RangeFuncCalls
import Derived.RangeFuncLeaves
import Derived.Shelf.Abstract
import Derived.Shelf.RegionOpen
import Derived.WalkKit
import Derived.OwnWalkIn
import Derived.TacticsInMore
import Derived.LoopNIn
import Derived.LoopIn
import Derived.RangeFuncBox
import Derived.Maps.AppendAt
namespace Go.Proofs.YtphfolmhlcmbjaaDoor
open Go.RowKit
open Go.Shelf
attribute [local go_sem] Oper.semAt_some

theorem slice_fromU (b o n c j : Nat) (h : j ≤ n) (hc : n ≤ c) :
    ∃ o', (∀ W, (Instr.slice 23 (.slice (some ⟨b, o, none⟩) n c) (some (.int .i64 (j : Int))) none none).run Tryd.prog W = .ok (.slice (some ⟨b, o', none⟩) (n - j) (c - j)) W) ∧ (j < n → o' = o + j * 2) := by
  have h1 : (0 : Int) ≤ (j : Int) := by omega
  have h2 : (j : Int) ≤ (n : Int) := by omega
  by_cases e : j = c
  · refine ⟨o, fun W => ?_, fun hlt => by omega⟩
    have h3 : ¬ n < c := by omega
    subst e
    go_simp
  · refine ⟨o + j * 2, fun W => ?_, fun _ => rfl⟩
    have h4 : ¬ c = j := fun h => e h.symm
    go_simp
theorem slice_toU (b o n c j : Nat) (h : j ≤ c) (W : World) :
    (Instr.slice 23 (.slice (some ⟨b, o, none⟩) n c) none (some (.int .i64 (j : Int))) none).run Tryd.prog W = .ok (.slice (some ⟨b, o, none⟩) j c) W := by
  have h1 : (0 : Int) ≤ (j : Int) := by omega
  have h2 : (j : Int) ≤ (c : Int) := by omega
  go_simp
theorem flatU_take (rs : List (ByteArray × Int)) (m : Nat) : (flat rs).take (2 * m) = flat (rs.take m) := by
  induction rs generalizing m with
  | nil => simp [flat]
  | cons r rs ih =>
    cases m with
    | zero => simp [flat]
    | succ m =>
      rw [flat_cons, List.take_succ_cons, flat_cons, ← ih m, show 2 * (m + 1) = 2 + 2 * m by omega]
      rw [List.take_append, List.take_of_length_le (by simp)]
      simp
theorem flatU_drop (rs : List (ByteArray × Int)) (m : Nat) : (flat rs).drop (2 * m) = flat (rs.drop m) := by
  induction rs generalizing m with
  | nil => simp [flat]
  | cons r rs ih =>
    cases m with
    | zero => simp
    | succ m =>
      rw [flat_cons, List.drop_succ_cons, ← ih m, show 2 * (m + 1) = 2 + 2 * m by omega, List.drop_append, List.drop_of_length_le (by simp)]
      simp
theorem eraseU_flat (rs : List (ByteArray × Int)) (i : Nat) : flat (rs.eraseIdx i) = (flat rs).take (2 * i) ++ (flat rs).drop (2 * (i + 1)) := by
  rw [flatU_take, flatU_drop, ← flat_append, List.eraseIdx_eq_take_drop_succ]

set_option maxHeartbeats 1000000 in
/-- The iterator, with what holds before each of its rounds. -/
theorem backwardU_in (n : Nat) (hn : 1 ≤ n) (l Bs : Nat) (A : Option Addr) (c : Nat) (rs : List (ByteArray × Int)) (hlen : rs.length ≤ 100) (J : Nat → World → Prop)
    (hK : ∀ k W, J k W → W.cell? ⟨Bs, 0, none⟩ = some (.slice A rs.length c) ∧ Own W 0 W.heap.size A (flat rs))
    (hY : ∀ (k : Nat) (s : ByteArray) (f : Int) W, k < rs.length → J (k + 1) W → YieldAt Fence.wide (n - 1) Tryd.prog l #[.int .i64 (k : Int), .agg #[.string s, .int .i64 f]] W fun e W' => e = .returned (.bool true) ∧ J k W')
    (W : World) (h0 : J rs.length W) :
    CallsIn Fence.wide n Tryd.prog 69 #[.func (.yield l) #[] #[], .pointer (some ⟨Bs, 0, none⟩)] W fun e W' => (∃ u, e = .returned u) ∧ J 0 W' := by
  have hro : Fence.wide.round = none := rfl
  have HK := Lib.hid hK
  have HY := Lib.hid hY
  have hbs := (hK _ _ h0).1
  clear hK hY
  refine callsIn_of_wp Tryd.func69 rfl trivial ?_ hro
  simp only [Tryd.ntmps69, List.size_toArray, List.length_cons, List.length_nil, Nat.reduceAdd, Nat.reduceSub, Array.replicate_succ, Array.replicate_zero, List.push_toArray, List.append_toArray, List.nil_append, List.cons_append]
  have hwl : IntKind.i64.wrap ((rs.length : Int) - 1) = (rs.length : Int) - 1 := IntWalk.i64_in _ (by omega)
  gi_wp2
  clear hwl
  gi_loopw [3] (fun i wr => ∃ k : Nat, k ≤ rs.length ∧ i = .int .i64 ((k : Int) - 1) ∧ Hid (J k wr)) (fun i _ => (intOf i + 1).toNat)
  case atStart => exact ⟨rs.length, Nat.le_refl _, rfl, Lib.hid h0⟩
  case round =>
    obtain ⟨k, hk, rfl, HJ⟩ := hrel
    by_cases hk0 : k = 0
    · subst hk0
      gi_wp2
      go_end0
      exact ⟨⟨_, rfl⟩, HJ.out⟩
    · obtain ⟨j, rfl⟩ : ∃ j, k = j + 1 := ⟨k - 1, by omega⟩
      have hjl : j < rs.length := by omega
      obtain ⟨hbox, hor⟩ := HK.out _ _ HJ.out
      obtain ⟨b, o, rfl, hb, hc⟩ := hor.open (by rw [flat_length]; omega)
      obtain ⟨hc1, hc2⟩ := routes_at hc hjl
      obtain ⟨s, hse⟩ : ∃ s, rs[j].1 = s := ⟨_, rfl⟩
      obtain ⟨f, hfe⟩ : ∃ f, rs[j].2 = f := ⟨_, rfl⟩
      rw [hse] at hc1
      rw [hfe] at hc2
      have hi : ((j + 1 : Nat) : Int) - 1 = (j : Int) := by omega
      have hw4 : IntKind.i64.wrap ((j : Int) - 1) = (j : Int) - 1 := IntWalk.i64_in _ (by omega)
      have hj0 : (0 : Int) ≤ (j : Int) := by omega
      have hjI : (j : Int) < rs.length := by omega
      obtain ⟨fn, tmps, assign, body, hy, hR⟩ := HY.out j s f wr hjl HJ.out
      rw [hi]
      clear hc hor hi hse hfe hbs
      gi_wp2
      refine hR.mono ?_
      rintro e W3 ⟨rfl, hJ3⟩
      have HJ3 := Lib.hid hJ3
      clear hJ3
      gi_wp2
      go_roundw
      case rel => exact ⟨j, by omega, by go_num, HJ3⟩
      case measure => simp [intOf]

set_option maxRecDepth 100000 in
theorem backwardU_any (A : Option Addr) (n c : Nat) (w : World) :
    Calls Tryd.prog 58 #[.slice A n c] w fun e w' => e = .returned (.func (.func 69) #[] #[.pointer (some ⟨w.heap.size, 0, none⟩)]) ∧ w' = w.alloc (.cells #[.slice A n c] 23) := by
  go_enter Tryd.func58, Tryd.ntmps58
  go_wp2
  go_ret
  exact ⟨rfl, rfl⟩
end Go.Proofs.YtphfolmhlcmbjaaDoor
