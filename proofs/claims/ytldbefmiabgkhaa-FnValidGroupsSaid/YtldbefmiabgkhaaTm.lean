/- Draws of groups. No condition. -/
import Derived.Test.YtldbefmiabgkhaaTl
import Derived.Test.YtldbefmiabgkhaaEx
namespace Go.Proofs.Ytldbefmiabgkhaa
open Go.RowKit

/-- What is drawn. -/
def DrG (w : World) (A : Option Addr) (c : Nat) (rs : List (List Int)) (w' : World) : Prop :=
  rs.length ≤ 5 ∧ rs.length ≤ c ∧ Four rs ∧ Grid w' 0 w'.heap.size A rs ∧ Below w.heap.size w w'

set_option maxRecDepth 100000 in
theorem drawValidGroups_any (A : Option Addr) (c : Nat) (zs : List Int) (w : World) (hr : Own w 0 w.heap.size A (zs.map (Value.int .u8))) (hx : zs.length ≤ c ∧ c ≤ maxLen ∧ ∀ z ∈ zs, (Lit.int .u8 z).wf = true) :
    Calls Try.prog 27 #[.slice A zs.length c] w fun e w' => ∃ (A : Option Addr) (c : Nat) (rs : List (List Int)), e = .returned (.slice A rs.length c) ∧ DrG w A c rs w' := by
  have H := Lib.hid hx
  clear hx
  go_enter Try.func27, Try.ntmps27
  go_wp2_with fail
  refine (newReader_any _ _ _ _ hr H.out).mono ?_
  rintro e w1 ⟨rfl, hrd, hb1⟩
  go_wp2_with fail
  refine (someGroups_any _ 0 _ hrd (by omega)).mono ?_
  rintro e w2 ⟨A2, c2, rs, rfl, h6, hc, htw, hm, _, hg⟩
  go_wp2_with fail
  go_ret
  exact ⟨A2, c2, rs, rfl, h6, hc, htw, hm.row, hb1.grown hg hb1.size (fun k hk => by injection hk with hk; omega)⟩
end Go.Proofs.Ytldbefmiabgkhaa
