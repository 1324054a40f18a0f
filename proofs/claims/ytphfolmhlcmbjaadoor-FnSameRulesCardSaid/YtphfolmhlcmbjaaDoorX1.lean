/- Rules in memory. No condition. -/
import Derived.Test.YtphfolmhlcmbjaaDoorQ1
namespace Go.Proofs.YtphfolmhlcmbjaaDoor
open Go.RowKit

set_option maxRecDepth 100000 in
theorem szRule_any (s : ByteArray) (n left : Int) (w : World) (hs : s.size ≤ 9223372036854775807) (hl : left ≤ 1048576) (hl0 : 0 ≤ left) :
    Calls Tryd.prog 60 #[.agg #[.string s, .int .i64 n], .int .i64 left] w fun e w' => ∃ r : Int, e = .returned (.int .i64 r) ∧ r ≤ left ∧ (0 ≤ r → (s.size : Int) ≤ left) ∧ Below w.heap.size w w' := by
  by_cases h : left - s.size < 0
  · go_enter Tryd.func60, Tryd.ntmps60
    go_wp2
    go_ret
    exact ⟨-1, rfl, by omega, by omega, (Below.refl _ _).alloc (Nat.le_refl _) _⟩
  · have h' : 0 ≤ left - s.size := by omega
    clear h
    go_enter Tryd.func60, Tryd.ntmps60
    go_wp2
    go_ret
    exact ⟨left - s.size, rfl, by omega, by omega, (Below.refl _ _).alloc (Nat.le_refl _) _⟩

set_option maxRecDepth 100000 in
set_option maxHeartbeats 1000000 in
theorem szRuleS_from (L0 : Int) (hL0 : 0 ≤ L0) (hL1 : L0 ≤ 1048576) (A : Option Addr) (c : Nat) (rs : List (ByteArray × Int)) (w : World) (hr : Own w 0 w.heap.size A (flat rs)) (hl : rs.length ≤ 9223372036854775807) (hs : ∀ r ∈ rs, r.1.size ≤ 9223372036854775807) :
    Calls Tryd.prog 32 #[.slice A rs.length c, .int .i64 L0] w fun e w' => ∃ r : Int, e = .returned (.int .i64 r) ∧ r ≤ 1048576 ∧ (0 ≤ r → rs.length ≤ 1048576 ∧ ∀ r ∈ rs, r.1.size ≤ 1048576) ∧ Below w.heap.size w w' := by
  have HS := Lib.hid hs
  clear hs
  by_cases h : L0 - rs.length < 0
  · go_enter Tryd.func32, Tryd.ntmps32
    go_wp2
    go_ret
    exact ⟨-1, rfl, by omega, by omega, Below.refl _ _⟩
  · have h' : (0 : Int) ≤ L0 - rs.length := by omega
    have hd : decide (L0 - rs.length < 0) = false := decide_eq_false h
    clear h
    go_enter Tryd.func32, Tryd.ntmps32
    go_wp2
    clear hd
    go_loopw [1, 5] (fun m i wr => ∃ (k : Nat) (l : Int), k ≤ rs.length ∧ i = .int .i64 k ∧ m = .int .i64 l ∧ 0 ≤ l ∧ l ≤ 1048576 ∧ (∀ r ∈ rs.take k, r.1.size ≤ 1048576) ∧ Below w.heap.size w wr) (fun _ i _ => rs.length - (intOf i).toNat)
    case atStart => exact ⟨0, _, by omega, rfl, rfl, by omega, by omega, by simp, Below.refl _ _⟩
    case round =>
      obtain ⟨k, l, hk, rfl, rfl, hl0, hl1, hall, hbr⟩ := hrel
      have HA := Lib.hid hall
      have HB := Lib.hid hbr
      by_cases hlt : k < rs.length
      · obtain ⟨b, o, rfl, hb, hc⟩ := (hr.below hbr).open (by rw [flat_length]; omega)
        obtain ⟨hc1, hc2⟩ := routes_at hc hlt
        have hsz := HS.out _ (List.getElem_mem hlt)
        clear hc hall hbr
        go_wp2_with fail
        refine (szRule_any rs[k].1 rs[k].2 l _ hsz hl1 hl0).mono ?_
        rintro e w2 ⟨r, rfl, hrl, hr0, b2⟩
        by_cases hneg : r < 0
        · clear hr0
          go_wp2
          go_ret
          exact ⟨-1, rfl, by omega, by omega, HB.out.trans (b2.mono HB.out.size)⟩
        · have hr00 : 0 ≤ r := by omega
          have hsl := hr0 hr00
          have hss : rs[k].1.size ≤ 1048576 := by omega
          have HSS := Lib.hid hss
          have H2 := Lib.hid b2
          clear hr0 hneg hsl hss b2 hsz
          go_wp2
          go_roundw
          case rel =>
            refine ⟨k + 1, r, by omega, by go_num, rfl, hr00, by omega, fun x hx => ?_, HB.out.trans (H2.out.mono HB.out.size)⟩
            rw [List.take_succ_eq_append_getElem hlt, List.mem_append, List.mem_singleton] at hx
            rcases hx with hx | rfl
            · exact HA.out x hx
            · exact HSS.out
          case measure => simp [intOf]; omega
      · have hk' : k = rs.length := by omega
        subst hk'
        clear hall hbr
        go_wp2
        go_ret
        refine ⟨l, rfl, hl1, fun _ => ⟨by omega, ?_⟩, HB.out⟩
        have := HA.out
        rwa [List.take_length] at this
theorem szRuleS_any (A : Option Addr) (c : Nat) (rs : List (ByteArray × Int)) (w : World) (hr : Own w 0 w.heap.size A (flat rs)) (hl : rs.length ≤ 9223372036854775807) (hs : ∀ r ∈ rs, r.1.size ≤ 9223372036854775807) :
    Calls Tryd.prog 32 #[.slice A rs.length c, .int .i64 1048576] w fun e w' => ∃ r : Int, e = .returned (.int .i64 r) ∧ (0 ≤ r → rs.length ≤ 1048576 ∧ ∀ r ∈ rs, r.1.size ≤ 1048576) ∧ Below w.heap.size w w' :=
  (szRuleS_from 1048576 (by omega) (by omega) A c rs w hr hl hs).mono fun _ _ ⟨r, h1, _, h2, h3⟩ => ⟨r, h1, h2, h3⟩
end Go.Proofs.YtphfolmhlcmbjaaDoor
