/- What the laws of chapter 8 draw; laws.different. No condition. -/
import Derived.Test.YtdgdlmpmoafkgaaS10
import Derived.Test.YtdgdlmpmoafkgaaDi
import Derived.Test.YtdgdlmpmoafkgaaJ4
import Derived.Test.YtdgdlmpmoafkgaaJ1
namespace Go.Proofs.Ytdgdlmpmoafkgaa
open Go.RowKit

set_option maxRecDepth 100000 in
theorem drawOneStack_any (A : Option Addr) (c : Nat) (zs : List Int) (w : World) (hr : Own w 0 w.heap.size A (zs.map (Value.int .u8))) (hx : zs.length ≤ c ∧ c ≤ maxLen ∧ ∀ z ∈ zs, (Lit.int .u8 z).wf = true) :
    Calls Try.prog 27 #[.slice A zs.length c] w fun e w' => ∃ (A : Option Addr) (c : Nat) (ds : List Int), e = .returned (.slice A ds.length c) ∧ ds.length ≤ 10 ∧ ds.length ≤ c ∧ Own w' 0 w'.heap.size A (ds.map (Value.int .i64)) ∧ Below w.heap.size w w' := by
  have H := Lib.hid hx
  clear hx
  go_enter Try.func27, Try.ntmps27
  go_wp2_with fail
  refine (newReader_any _ _ _ _ hr H.out).mono ?_
  rintro e w1 ⟨rfl, hrd, hb1⟩
  go_wp2_with fail
  refine (someRow_any _ 0 _ hrd (by omega)).mono ?_
  rintro e w2 ⟨A2, c2, ds, rfl, h10, hc, ho, _, hg⟩
  go_wp2_with fail
  go_ret
  exact ⟨A2, c2, ds, rfl, h10, hc, ho.row, hb1.grown hg hb1.size (fun k hk => by injection hk with hk; omega)⟩
end Go.Proofs.Ytdgdlmpmoafkgaa
