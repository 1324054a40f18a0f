/- Contracts. No condition. -/
import Derived.Test.YtempfagjbpnlcaaA2
namespace Go.Proofs.Ytempfagjbpnlcaa
open Go.RowKit

theorem four_of {zs : List Int} (h : zs.length = 4) : ∃ p q r s, zs = [p, q, r, s] := by
  match zs, h with
  | [p, q, r, s], _ => exact ⟨p, q, r, s, rfl⟩

set_option maxRecDepth 100000 in
set_option maxHeartbeats 1000000 in
theorem digitsOf_bad (A : Option Addr) (c : Nat) (zs : List Int) (w : World) (hr : Ints w w.heap.size A zs) (hv : validD zs = false) :
    Calls Try.prog 29 #[.slice A zs.length c] w fun e w' => e = .returned (.tuple #[.agg #[.int .i64 0, .int .i64 0, .int .i64 0, .int .i64 0], .bool false]) ∧ Below w.heap.size w w' := by
  by_cases h4 : zs.length = 4
  · obtain ⟨p, q, r, s, rfl⟩ := four_of h4
    obtain ⟨b, o, rfl, hb, hc⟩ := hr.open (by simp)
    have c0 : w.cell? ⟨b, o, none⟩ = some (.int .i64 p) := hc 0 _ rfl
    have c1 : w.cell? ⟨b, o + 1, none⟩ = some (.int .i64 q) := hc 1 _ rfl
    have c2 : w.cell? ⟨b, o + 2, none⟩ = some (.int .i64 r) := hc 2 _ rfl
    have c3 : w.cell? ⟨b, o + 3, none⟩ = some (.int .i64 s) := hc 3 _ rfl
    clear hc hr h4
    have HV := Lib.hid hv; clear hv
    go_enter Try.func29, Try.ntmps29
    go_wp2
    go_rounds 5
    all_goals first
      | (go_returns; exact ⟨rfl, by go_grown⟩)
      | (exfalso; have := HV.out; simp [validD, inR] at this; omega)
  · have ht : ((zs.length : Int) != 4) = true := by simp; omega
    clear h4
    go_enter Try.func29, Try.ntmps29
    go_wp2
    go_returns
    exact ⟨rfl, by go_grown⟩

set_option maxRecDepth 100000 in
set_option maxHeartbeats 1000000 in
theorem digitsOf_ok (A : Option Addr) (c : Nat) (p q r s : Int) (w : World) (hr : Ints w w.heap.size A [p, q, r, s]) (hp : 0 ≤ p ∧ p ≤ 9) (hq : 0 ≤ q ∧ q ≤ 9) (hr' : 0 ≤ r ∧ r ≤ 9) (hs : 0 ≤ s ∧ s ≤ 9) :
    Calls Try.prog 29 #[.slice A 4 c] w fun e w' =>
      e = .returned (.tuple #[.agg #[.int .i64 p, .int .i64 q, .int .i64 r, .int .i64 s], .bool true]) ∧ Below w.heap.size w w' := by
  obtain ⟨b, o, rfl, hb, hc⟩ := hr.open (by simp)
  have c0 : w.cell? ⟨b, o, none⟩ = some (.int .i64 p) := hc 0 _ rfl
  have c1 : w.cell? ⟨b, o + 1, none⟩ = some (.int .i64 q) := hc 1 _ rfl
  have c2 : w.cell? ⟨b, o + 2, none⟩ = some (.int .i64 r) := hc 2 _ rfl
  have c3 : w.cell? ⟨b, o + 3, none⟩ = some (.int .i64 s) := hc 3 _ rfl
  clear hc hr
  go_enter Try.func29, Try.ntmps29
  go_wp2
  go_rounds 5
  go_returns
  exact ⟨rfl, by go_grown⟩
end Go.Proofs.Ytempfagjbpnlcaa
