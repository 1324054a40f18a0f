/- The walk of the law FnExactBoxOf. No condition. -/
import Derived.Test.YtphfolmhlcmbjaaDoorX2
import Derived.Test.YtphfolmhlcmbjaaDoorX3
import Derived.Test.YtphfolmhlcmbjaaDoorX5
namespace Go.Proofs.YtphfolmhlcmbjaaDoor
open Go.RowKit

set_option maxRecDepth 100000 in
set_option maxHeartbeats 1000000 in
theorem exactBoxOf_law (A : Option Addr) (c : Nat) (rs : List (ByteArray × Int)) (s : ByteArray) (w : World) (hr : Own w 0 w.heap.size A (flat rs)) (hx : rs.length ≤ c ∧ c ≤ maxLen ∧ ∀ r ∈ rs, r.1.size ≤ maxLen ∧ (Lit.int .i64 r.2).wf = true) (hz : s.size ≤ maxLen) :
    Calls Tryd.prog 9 #[.slice A rs.length c, .string s] w fun e w' => e = .returned (.bool true) ∧ Below w.heap.size w w' := by
  have hl : rs.length ≤ 9223372036854775807 := by have := hx.1; have := hx.2.1; unfold maxLen at this; omega
  have hsz : ∀ r ∈ rs, r.1.size ≤ 9223372036854775807 := fun r h => by have := (hx.2.2 r h).1; unfold maxLen at this; omega
  have hzz : s.size ≤ 9223372036854775807 := by unfold maxLen at hz; omega
  have HSZ := Lib.hid hsz
  clear hx hsz hz
  by_cases hs20 : s.size ≤ 1048576
  · have hdd : decide ((1048576 : Int) < (s.size : Int)) = false := decide_eq_false (by omega)
    go_enter Tryd.func9, Tryd.ntmps9
    go_wp2_with fail
    refine (szRuleS_any _ _ _ _ hr hl HSZ.out).mono ?_
    rintro e w0 ⟨r, rfl, hrl, hb0⟩
    clear hdd
    by_cases hr0 : r < 0
    · clear hrl
      go_wp2
      go_ret
      exact ⟨rfl, hb0⟩
    · have h20 := (hrl (by omega)).1
      have HS2 := Lib.hid (hrl (by omega)).2
      have hnn : (0 : Int) ≤ r := by omega
      clear hrl hr0 hl
      have z0 := hb0.size
      have R0 := (hr.below hb0).more z0
      go_wp2_with fail
      refine (toRuleS_any _ _ _ _ R0 h20).mono ?_
      rintro e w1 ⟨A1, c1, rfl, hc1, o1, b1⟩
      go_wp2_with fail
      refine (specBoxOf_any _ _ _ _ _ (o1.less (Nat.zero_le _)) h20 hs20 HS2.out).mono ?_
      rintro e w2 ⟨rfl, n2, hw2⟩
      have b2 : Below w0.heap.size w0 w2 := by rw [hw2]; exact below_drewN b1 n2
      clear hw2 o1
      go_wp2_with fail
      have R2 := R0.past b2
      refine (toRuleS_any _ _ _ _ R2 h20).mono ?_
      rintro e w3 ⟨A3, c3, rfl, hc3, o3, b3⟩
      go_wp2_with fail
      have o3' := o3.less (Nat.zero_le _)
      refine (impBoxOf_any _ _ _ _ _ o3' h20 hs20 HS2.out).mono ?_
      rintro e w4 ⟨rfl, b4⟩
      obtain ⟨q, hq⟩ : ∃ q, boxOfV rs s = q := ⟨_, rfl⟩
      rw [hq]
      clear hq
      have R3 := R2.past b3
      have R4 := R3.past b4
      have o4 := o3'.past b4
      have B4 := Lib.hid (show Below w.heap.size w w4 from hb0.trans ((b2.trans ((b3.mono b2.size).trans (b4.mono (Nat.le_trans b2.size b3.size)))).mono z0))
      have hqq : (q != q) = false := by simp
      go_wp2_with fail
      refine (toRuleS_any _ _ _ _ R4 h20).mono ?_
      rintro e w5 ⟨A5, c5, rfl, hc5, o5, b5⟩
      have o4' := o4.past b5
      go_wp2_with fail
      refine (eqRuleS_self _ _ _ _ _ _ o4' (o5.less (Nat.zero_le _)) h20).mono ?_
      rintro e w6 ⟨rfl, b6⟩
      have B6 := Lib.hid (show Below w.heap.size w w6 from B4.out.trans ((b5.trans (b6.mono b5.size)).mono B4.out.size))
      clear b6 b5 o5 o4' o4 R4 R3
      go_wp2
      go_ret
      exact ⟨rfl, B6.out⟩
  · have hdd : decide ((1048576 : Int) < (s.size : Int)) = true := decide_eq_true (by omega)
    go_enter Tryd.func9, Tryd.ntmps9
    go_wp2
    go_ret
    exact ⟨rfl, Below.refl _ _⟩
end Go.Proofs.YtphfolmhlcmbjaaDoor
