/- Towns: spec.validTown. No condition. -/
import Derived.Test.YtjklnknlifpidaaN2
namespace Go.Proofs.Ytjklnknlifpidaa
open Go.RowKit

def townB (n : Int) (rs : List (List Int)) : Bool := (inR n 1 5 && decide (rs.length ≤ 7)) && (rs.all (okS n) && (List.range n.toNat).all (reach (rs.map st) 0))
theorem townB_bad {n : Int} {rs : List (List Int)} (h : (inR n 1 5 && decide (rs.length ≤ 7)) = false) : townB n rs = false := by rw [townB, h, Bool.false_and]
theorem townB_row {n : Int} {rs : List (List Int)} {k : Nat} (hk : k < rs.length) (h : okS n rs[k] = false) : townB n rs = false := by rw [townB, all_no hk h, Bool.false_and, Bool.and_false]
theorem townB_parts {n : Int} {rs : List (List Int)} (h : townB n rs = true) : ∃ m : Nat, n = (m : Int) ∧ 1 ≤ m ∧ m ≤ 5 ∧ rs.length ≤ 7 ∧ rs.all (okS m) = true ∧ ∀ i, i < m → reach (rs.map st) 0 i = true := by
  simp only [townB, Bool.and_eq_true, decide_eq_true_eq, inR_iff] at h
  obtain ⟨⟨h1, h2⟩, h3, h4⟩ := h
  refine ⟨n.toNat, by omega, by omega, by omega, h2, by rw [Int.toNat_of_nonneg (by omega)]; exact h3, fun i hi => ?_⟩
  rw [List.all_eq_true] at h4
  exact h4 i (List.mem_range.2 hi)
theorem row_bd {rs : List (List Int)} {P : List Int → Prop} (h : ∀ r ∈ rs, P r) {k : Nat} (hk : k < rs.length) : P rs[k] := h _ (List.getElem_mem hk)

/-- Wrong numbers: the answer is no, whatever the streets. -/
theorem validTown_bad (A : Option Addr) (c : Nat) (rs : List (List Int)) (n : Int) (w : World) (hr : Grid w 0 w.heap.size A rs) (hl : rs.length ≤ 1000000000) (hs : ∀ r ∈ rs, r.length ≤ 1000000000) (hb : (inR n 1 5 && decide (rs.length ≤ 7)) = false) :
    Calls Try.prog 29 #[.int .i64 n, .slice A rs.length c] w fun e w' => e = .returned (.bool false) ∧ w = w' := by
  have HS := Lib.hid hs
  clear hs
  have hin : ∀ (x lo hi : Int) (X : World), Calls Try.prog 49 #[.int .i64 x, .int .i64 lo, .int .i64 hi] X fun e w' => e = .returned (.bool (inR x lo hi)) ∧ X = w' := inRange_any
  have HIN := Lib.hid hin
  clear hin
  go_enter Try.func29, Try.ntmps29
  go_wp2
  go_loop [5] (fun i => ∃ k : Nat, k ≤ rs.length ∧ i = .int .i64 k) (fun i => rs.length - (intOf i).toNat)
  case atStart => exact ⟨0, by omega, rfl⟩
  case round =>
    obtain ⟨k, hk, rfl⟩ := hrel
    by_cases hlt : k < rs.length
    · obtain ⟨b, o, R, c1, rfl, hb2, hcell, hc1, ho⟩ := hr.open hlt
      have hsz := row_bd HS.out hlt
      obtain ⟨r, hre⟩ : ∃ r, rs[k] = r := ⟨_, rfl⟩
      rw [hre] at hcell ho hsz
      have HLT := Lib.hid hlt
      clear hre hc1
      by_cases h3 : r.length = 3
      · obtain ⟨p, q, s, rfl⟩ := three_of h3
        clear h3 hsz
        obtain ⟨b', o', rfl, hb', hc'⟩ := ho.open (by simp)
        have q0 := ints_at hc' (show 0 < [p, q, s].length by simp)
        have q1 := ints_at hc' (show 1 < [p, q, s].length by simp)
        have q2 := ints_at hc' (show 2 < [p, q, s].length by simp)
        simp only [List.getElem_cons_zero, List.getElem_cons_succ, Nat.add_zero] at q0 q1 q2
        have hle3 : ([p, q, s] : List Int).length = 3 := rfl
        rw [hle3] at hcell
        clear hc' ho hle3
        obtain ⟨m, hm⟩ : ∃ m, IntKind.i64.wrap (n - 1) = m := ⟨_, rfl⟩
        cases g0 : inR p 0 m with
        | false =>
          have HI0 := Lib.hid (show ∀ X, Calls Try.prog 49 #[.int .i64 p, .int .i64 0, .int .i64 m] X fun e w' => e = .returned (.bool false) ∧ X = w' from fun X => by have := HIN.out p 0 m X; rw [g0] at this; exact this)
          clear g0 hb
          go_wp2_with (go_at_call 49; ((with_reducible refine (HI0.out _).mono ?_); rintro e w' ⟨rfl, rfl⟩))
          go_ret
          exact ⟨rfl, rfl⟩
        | true =>
          have HI0 := Lib.hid (show ∀ X, Calls Try.prog 49 #[.int .i64 p, .int .i64 0, .int .i64 m] X fun e w' => e = .returned (.bool true) ∧ X = w' from fun X => by have := HIN.out p 0 m X; rw [g0] at this; exact this)
          clear g0
          cases g1 : inR q 0 m with
          | false =>
            have HI1 := Lib.hid (show ∀ X, Calls Try.prog 49 #[.int .i64 q, .int .i64 0, .int .i64 m] X fun e w' => e = .returned (.bool false) ∧ X = w' from fun X => by have := HIN.out q 0 m X; rw [g1] at this; exact this)
            clear g1 hb
            go_wp2_with (go_at_call 49; first | ((with_reducible refine (HI0.out _).mono ?_); rintro e w' ⟨rfl, rfl⟩) | ((with_reducible refine (HI1.out _).mono ?_); rintro e w' ⟨rfl, rfl⟩))
            go_ret
            exact ⟨rfl, rfl⟩
          | true =>
            have HI1 := Lib.hid (show ∀ X, Calls Try.prog 49 #[.int .i64 q, .int .i64 0, .int .i64 m] X fun e w' => e = .returned (.bool true) ∧ X = w' from fun X => by have := HIN.out q 0 m X; rw [g1] at this; exact this)
            clear g1
            cases g2 : inR s 1 20 with
            | false =>
              have HI2 := Lib.hid (show ∀ X, Calls Try.prog 49 #[.int .i64 s, .int .i64 1, .int .i64 20] X fun e w' => e = .returned (.bool false) ∧ X = w' from fun X => by have := HIN.out s 1 20 X; rw [g2] at this; exact this)
              clear g2 hb
              go_wp2_with (go_at_call 49; first | ((with_reducible refine (HI0.out _).mono ?_); rintro e w' ⟨rfl, rfl⟩) | ((with_reducible refine (HI1.out _).mono ?_); rintro e w' ⟨rfl, rfl⟩) | ((with_reducible refine (HI2.out _).mono ?_); rintro e w' ⟨rfl, rfl⟩))
              go_ret
              exact ⟨rfl, rfl⟩
            | true =>
              have HI2 := Lib.hid (show ∀ X, Calls Try.prog 49 #[.int .i64 s, .int .i64 1, .int .i64 20] X fun e w' => e = .returned (.bool true) ∧ X = w' from fun X => by have := HIN.out s 1 20 X; rw [g2] at this; exact this)
              clear g2 hb
              go_wp2_with (go_at_call 49; first | ((with_reducible refine (HI0.out _).mono ?_); rintro e w' ⟨rfl, rfl⟩) | ((with_reducible refine (HI1.out _).mono ?_); rintro e w' ⟨rfl, rfl⟩) | ((with_reducible refine (HI2.out _).mono ?_); rintro e w' ⟨rfl, rfl⟩))
              clear hm
              go_round
              case rel => exact ⟨k + 1, by have := HLT.out; omega, by go_num⟩
              case measure => have := HLT.out; simp [intOf]; omega
      · have ht : ((r.length : Int) != 3) = true := by simp; omega
        clear h3 ho hb
        go_wp2
        go_ret
        exact ⟨rfl, rfl⟩
    · have hk' : k = rs.length := by omega
      subst hk'
      cases g0 : inR n 1 5 with
      | false =>
        have HI0 := Lib.hid (show ∀ X, Calls Try.prog 49 #[.int .i64 n, .int .i64 1, .int .i64 5] X fun e w' => e = .returned (.bool false) ∧ X = w' from fun X => by have := HIN.out n 1 5 X; rw [g0] at this; exact this)
        clear g0 hb
        go_wp2_with (go_at_call 49; ((with_reducible refine (HI0.out _).mono ?_); rintro e w' ⟨rfl, rfl⟩))
        go_ret
        exact ⟨rfl, rfl⟩
      | true =>
        have HI0 := Lib.hid (show ∀ X, Calls Try.prog 49 #[.int .i64 n, .int .i64 1, .int .i64 5] X fun e w' => e = .returned (.bool true) ∧ X = w' from fun X => by have := HIN.out n 1 5 X; rw [g0] at this; exact this)
        have h7 : 7 < rs.length := by
          rw [g0] at hb
          simpa using hb
        clear g0 hb
        go_wp2_with (go_at_call 49; ((with_reducible refine (HI0.out _).mono ?_); rintro e w' ⟨rfl, rfl⟩))
        go_ret
        exact ⟨rfl, rfl⟩
end Go.Proofs.Ytjklnknlifpidaa
