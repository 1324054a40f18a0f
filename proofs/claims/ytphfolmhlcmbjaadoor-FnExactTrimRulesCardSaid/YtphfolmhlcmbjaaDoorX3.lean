/- Equal lists of rules are found equal. No condition. -/
import Derived.Test.YtphfolmhlcmbjaaDoorX1
import Derived.Deep.RegionHeld3
namespace Go.Proofs.YtphfolmhlcmbjaaDoor
open Go.RowKit

set_option maxRecDepth 100000 in
theorem eqRule_self (s : ByteArray) (n : Int) (w : World) :
    Calls Tryd.prog 62 #[.agg #[.string s, .int .i64 n], .agg #[.string s, .int .i64 n]] w fun e w' => e = .returned (.bool true) ∧ Below w.heap.size w w' := by
  have e2 : (n != n) = false := by simp
  go_enter Tryd.func62, Tryd.ntmps62
  go_wp2
  go_ret
  exact ⟨rfl, ((Below.refl _ _).alloc (Nat.le_refl _) _).alloc (by simp) _⟩

set_option maxRecDepth 100000 in
set_option maxHeartbeats 1000000 in
theorem eqRuleS_self (A B : Option Addr) (c d : Nat) (rs : List (ByteArray × Int)) (w : World) (hr : Own w 0 w.heap.size A (flat rs)) (hs : Own w 0 w.heap.size B (flat rs)) (hl : rs.length ≤ 1048576) :
    Calls Tryd.prog 34 #[.slice A rs.length c, .slice B rs.length d] w fun e w' => e = .returned (.bool true) ∧ Below w.heap.size w w' := by
  have ht : ((rs.length : Int) != (rs.length : Int)) = false := by simp
  go_enter Tryd.func34, Tryd.ntmps34
  go_wp2
  clear ht
  go_loopw [5] (fun i wr => ∃ k : Nat, k ≤ rs.length ∧ i = .int .i64 k ∧ Below w.heap.size w wr) (fun i _ => rs.length - (intOf i).toNat)
  case atStart => exact ⟨0, by omega, rfl, Below.refl _ _⟩
  case round =>
    obtain ⟨k, hk, rfl, hbr⟩ := hrel
    by_cases hlt : k < rs.length
    · obtain ⟨b, o, rfl, hb, hc⟩ := (hr.below hbr).open (by rw [flat_length]; omega)
      obtain ⟨b', o', rfl, hb', hc'⟩ := (hs.below hbr).open (by rw [flat_length]; omega)
      obtain ⟨h1, h2⟩ := routes_at hc hlt
      obtain ⟨h3, h4⟩ := routes_at hc' hlt
      have hz := hbr.size
      have HB := Lib.hid hbr
      have HCS := Lib.hid (And.intro (And.intro h1 h2) (And.intro h3 h4))
      have hbw : b < wr.heap.size := by omega
      have hbw' : b' < wr.heap.size := by omega
      have q4 : Below wr.heap.size wr wr.drew := ⟨rfl, rfl, rfl, Nat.le_refl _, fun _ _ => rfl⟩
      clear hc hc' h1 h2 h3 h4 hbr
      go_wp2
      go_region_held3 (fun w' => (w'.cell? ⟨b, o + k * 2, none⟩ = some (.string rs[k].1) ∧ w'.cell? ⟨b, o + k * 2 + 1, none⟩ = some (.int .i64 rs[k].2)) ∧ (w'.cell? ⟨b', o' + k * 2, none⟩ = some (.string rs[k].1) ∧ w'.cell? ⟨b', o' + k * 2 + 1, none⟩ = some (.int .i64 rs[k].2)))
        (first | exact ⟨⟨cell_stay q5 hbw HCS.out.1.1, cell_stay q5 hbw HCS.out.1.2⟩, ⟨cell_stay q5 hbw' HCS.out.2.1, cell_stay q5 hbw' HCS.out.2.2⟩⟩ | exact ⟨⟨cell_stay q4 hbw HCS.out.1.1, cell_stay q4 hbw HCS.out.1.2⟩, ⟨cell_stay q4 hbw' HCS.out.2.1, cell_stay q4 hbw' HCS.out.2.2⟩⟩)
        ((first
          | (go_at_call 62; refine (eqRule_self rs[k].1 rs[k].2 _).mono ?_; rintro e w5 ⟨rfl, b5⟩; have q5 : Below wr.heap.size wr w5 := q4.trans b5)
          | fail))
      have HQ := Lib.hid q5
      clear q4 q5 b5
      go_simp
      go_wp2
      go_roundw
      case rel => exact ⟨k + 1, by omega, by go_num, HB.out.trans (HQ.out.mono hz)⟩
      case measure => simp [intOf]; omega
    · have hk' : k = rs.length := by omega
      subst hk'
      go_wp2
      go_ret
      exact ⟨rfl, hbr⟩
end Go.Proofs.YtphfolmhlcmbjaaDoor
