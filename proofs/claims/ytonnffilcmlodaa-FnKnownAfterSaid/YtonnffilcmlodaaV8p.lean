/- Calls: what the laws draw, powers of two. No condition. -/
import Derived.Test.YtonnffilcmlodaaVt
import Derived.Test.YtonnffilcmlodaaVg
import Derived.Test.YtonnffilcmlodaaVe
import Derived.Test.YtonnffilcmlodaaRd2
import Derived.Test.YtonnffilcmlodaaEqR
namespace Go.Proofs.Ytonnffilcmlodaa
open Go.RowKit

set_option maxRecDepth 100000 in
theorem lpower_any (n : Nat) (w : World) (hn : n ≤ 20) :
    Calls Try.prog 22 #[.int .i64 n] w fun e w' => e = .returned (.int .i64 ((2 ^ n : Nat) : Int)) ∧ w = w' := by
  have hle : ∀ j, j ≤ n → 2 ^ j ≤ 1048576 := fun j hj => Nat.le_trans (Nat.pow_le_pow_right (by omega) (show j ≤ 20 by omega)) (by decide)
  have HL := Lib.hid hle
  clear hle
  go_enter Try.func22, Try.ntmps22
  go_wp2
  go_loop [0, 3] (fun m out => ∃ j : Nat, j ≤ n ∧ m = .int .i64 ((n - j : Nat) : Int) ∧ out = .int .i64 ((2 ^ j : Nat) : Int)) (fun m _ => (intOf m).toNat)
  case atStart => exact ⟨0, by omega, rfl, rfl⟩
  case round =>
    obtain ⟨j, hj, rfl, rfl⟩ := hrel
    obtain ⟨a, ha⟩ : ∃ a, 2 ^ j = a := ⟨_, rfl⟩
    have h1 := HL.out j hj
    rw [ha] at h1
    have HA := Lib.hid ha
    rw [ha]
    by_cases hlt : j < n
    · obtain ⟨d, hd⟩ : ∃ d, n - j = d + 1 := ⟨n - j - 1, by omega⟩
      have HD := Lib.hid hd
      have hd1 : d ≤ 1000000 := by omega
      rw [hd]
      clear ha hd
      have hd0 : (0 : Int) < ((d + 1 : Nat) : Int) := by omega
      go_wp2
      go_round
      case rel => exact ⟨j + 1, by omega, by rw [show n - (j + 1) = d by have := HD.out; omega], by rw [Nat.pow_succ, HA.out, Nat.mul_comm]; push_cast; rfl⟩
      case measure => simp [intOf]
    · have hj' : j = n := by omega
      subst hj'
      rw [Nat.sub_self]
      clear ha
      go_wp2
      go_ret
      exact ⟨ret_int (by rw [← HA.out]; simp), rfl⟩

/-- A small number that is drawn. -/
def DrN (w : World) (e : Ending) (w' : World) : Prop := ∃ n : Int, e = .returned (.int .i64 n) ∧ 0 ≤ n ∧ n ≤ 8 ∧ Below w.heap.size w w'
set_option maxRecDepth 100000 in
theorem drawCallsFor_any (A : Option Addr) (c : Nat) (zs : List Int) (w : World) (hr : Own w 0 w.heap.size A (zs.map (Value.int .u8))) (hx : zs.length ≤ c ∧ c ≤ maxLen ∧ ∀ z ∈ zs, (Lit.int .u8 z).wf = true) :
    Calls Try.prog 24 #[.slice A zs.length c] w (DrN w) := by
  have H := Lib.hid hx
  clear hx
  go_enter Try.func24, Try.ntmps24
  go_wp2_with fail
  refine (newReader_any _ _ _ _ hr H.out).mono ?_
  rintro e w1 ⟨rfl, hrd, hb1⟩
  have hz1 := hb1.size
  go_wp2_with fail
  refine (one_lit _ _ w1 hrd (by omega) [4, 3, 5, 6, 7, 2, 1, 0, 8] (by decide) (by decide) 9 rfl _ rfl).mono ?_
  rintro e w2 ⟨n, rfl, hn, hrd2, hg2⟩
  have hn8 : 0 ≤ n ∧ n ≤ 8 := by simp at hn; omega
  have HN8 := Lib.hid hn8
  have HG := Lib.hid (hb1.grown hg2 hz1 (fun i hi => by injection hi with hi; omega))
  clear hn hn8 hrd hg2
  go_wp2_with fail
  go_ret
  exact ⟨n, rfl, HN8.out.1, HN8.out.2, HG.out⟩

set_option maxRecDepth 100000 in
theorem drawFewestCalls_any (A : Option Addr) (c : Nat) (zs : List Int) (w : World) (hr : Own w 0 w.heap.size A (zs.map (Value.int .u8))) (hx : zs.length ≤ c ∧ c ≤ maxLen ∧ ∀ z ∈ zs, (Lit.int .u8 z).wf = true) :
    Calls Try.prog 28 #[.slice A zs.length c] w (DrN w) := by
  have H := Lib.hid hx
  clear hx
  go_enter Try.func28, Try.ntmps28
  go_wp2_with fail
  refine (newReader_any _ _ _ _ hr H.out).mono ?_
  rintro e w1 ⟨rfl, hrd, hb1⟩
  have hz1 := hb1.size
  go_wp2_with fail
  refine (one_lit _ _ w1 hrd (by omega) [4, 3, 5, 6, 7, 2, 1, 0, 8] (by decide) (by decide) 9 rfl _ rfl).mono ?_
  rintro e w2 ⟨n, rfl, hn, hrd2, hg2⟩
  have hn8 : 0 ≤ n ∧ n ≤ 8 := by simp at hn; omega
  have HN8 := Lib.hid hn8
  have HG := Lib.hid (hb1.grown hg2 hz1 (fun i hi => by injection hi with hi; omega))
  clear hn hn8 hrd hg2
  go_wp2_with fail
  go_ret
  exact ⟨n, rfl, HN8.out.1, HN8.out.2, HG.out⟩

set_option maxRecDepth 100000 in
theorem drawCallsTried_any (A : Option Addr) (c : Nat) (zs : List Int) (w : World) (hr : Own w 0 w.heap.size A (zs.map (Value.int .u8))) (hx : zs.length ≤ c ∧ c ≤ maxLen ∧ ∀ z ∈ zs, (Lit.int .u8 z).wf = true) :
    Calls Try.prog 31 #[.slice A zs.length c] w (DrN w) := by
  have H := Lib.hid hx
  clear hx
  go_enter Try.func31, Try.ntmps31
  go_wp2_with fail
  refine (newReader_any _ _ _ _ hr H.out).mono ?_
  rintro e w1 ⟨rfl, hrd, hb1⟩
  have hz1 := hb1.size
  go_wp2_with fail
  refine (one_lit _ _ w1 hrd (by omega) [4, 3, 5, 6, 7, 2, 1, 0, 8] (by decide) (by decide) 9 rfl _ rfl).mono ?_
  rintro e w2 ⟨n, rfl, hn, hrd2, hg2⟩
  have hn8 : 0 ≤ n ∧ n ≤ 8 := by simp at hn; omega
  have HN8 := Lib.hid hn8
  have HG := Lib.hid (hb1.grown hg2 hz1 (fun i hi => by injection hi with hi; omega))
  clear hn hn8 hrd hg2
  go_wp2_with fail
  go_ret
  exact ⟨n, rfl, HN8.out.1, HN8.out.2, HG.out⟩
end Go.Proofs.Ytonnffilcmlodaa
