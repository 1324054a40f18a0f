/- The first block of a row. No condition. -/
import Derived.Test.YtldbefmiabgkhabAid
import Derived.Test.YtldbefmiabgkhabDr
namespace Go.Proofs.Ytldbefmiabgkhab
open Go.RowKit

theorem first_lit (W : World) (base : Nat) (h : base ≤ W.heap.size) : (W.alloc (.cells #[] 3)).ownsRow base 3 1 (.slice (some ⟨W.heap.size, 0, none⟩) 0 0) 0 [] :=
  World.ownsRow_lit W #[] 0 h (by simp [maxLen]) rfl

theorem first_lit' (W : World) (base g : Nat) (h : base ≤ W.heap.size) (hg : W.heap.size = g) : (W.alloc (.cells #[] 3)).ownsRow base 3 1 (.slice (some ⟨g, 0, none⟩) 0 0) 0 [] := by
  subst hg; exact first_lit W base h
end Go.Proofs.Ytldbefmiabgkhab
