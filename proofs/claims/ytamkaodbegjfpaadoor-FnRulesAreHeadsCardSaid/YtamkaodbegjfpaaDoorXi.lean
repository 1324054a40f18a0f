/- Drawn rules; the walk of the law FnValidRules. No condition. -/
import Derived.Test.YtamkaodbegjfpaaDoorXe
import Derived.Test.YtamkaodbegjfpaaDoorX5
import Derived.Test.YtamkaodbegjfpaaDoorRt
import Derived.Test.YtamkaodbegjfpaaDoorEq
namespace Go.Proofs.YtamkaodbegjfpaaDoor
open Go.RowKit

def DrawnU (w : World) (A : Option Addr) (c : Nat) (rs : List (ByteArray × Int)) (w' : World) : Prop :=
  rs.length ≤ 8 ∧ rs.length ≤ c ∧ ShortU rs ∧ Own w' 0 w'.heap.size A (flat rs) ∧ Below w.heap.size w w'
theorem ShortU.le {rs : List (ByteArray × Int)} (h : ShortU rs) : ∀ r ∈ rs, r.1.size ≤ 1048576 := fun r hr => by have := h r hr; omega

set_option maxRecDepth 100000 in
theorem drawShadowedOf_any (A : Option Addr) (c : Nat) (zs : List Int) (w : World) (hr : Own w 0 w.heap.size A (zs.map (Value.int .u8))) (hx : zs.length ≤ c ∧ c ≤ maxLen ∧ ∀ z ∈ zs, (Lit.int .u8 z).wf = true) :
    Calls Tryd.prog 4 #[.slice A zs.length c] w fun e w' => ∃ (A : Option Addr) (c : Nat) (rs : List (ByteArray × Int)), e = .returned (.slice A rs.length c) ∧ DrawnU w A c rs w' := by
  have H := Lib.hid hx
  clear hx
  go_enter Tryd.func4, Tryd.ntmps4
  go_wp2_with fail
  refine (newReader_any _ _ _ _ hr H.out).mono ?_
  rintro e w1 ⟨rfl, hrd, hb1⟩
  go_wp2_with fail
  refine (someRules_any _ 0 _ hrd (by omega)).mono ?_
  rintro e w2 ⟨A2, c2, rs, rfl, h6, hc, htw, hm, _, hg⟩
  go_wp2_with fail
  go_ret
  exact ⟨A2, c2, rs, rfl, h6, hc, htw, hm.row, hb1.grown hg hb1.size (fun k hk => by injection hk with hk; omega)⟩

theorem slice_toU0 (b o n c j : Nat) (h : j ≤ c) (W : World) :
    (Instr.slice 23 (.slice (some ⟨b, o, none⟩) n c) none (some (.int .i64 (j : Int))) none).run Tryd.prog W = .ok (.slice (some ⟨b, o, none⟩) j c) W := by
  have h1 : (0 : Int) ≤ (j : Int) := by omega
  have h2 : (j : Int) ≤ (c : Int) := by omega
  go_simp
theorem flatV_take (rs : List (ByteArray × Int)) (m : Nat) : (flat rs).take (2 * m) = flat (rs.take m) := by
  induction rs generalizing m with
  | nil => simp [flat]
  | cons r rs ih =>
    cases m with
    | zero => simp [flat]
    | succ m =>
      rw [flat_cons, List.take_succ_cons, flat_cons, ← ih m, show 2 * (m + 1) = 2 + 2 * m by omega]
      rw [List.take_append, List.take_of_length_le (by simp)]
      simp
end Go.Proofs.YtamkaodbegjfpaaDoor
