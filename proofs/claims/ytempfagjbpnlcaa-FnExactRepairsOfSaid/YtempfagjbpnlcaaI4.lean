/- Rising rows, the document's side: spec.rising, spec.RisingOf; laws.greatestOf, laws.placeOf. No condition. -/
import Derived.Test.YtempfagjbpnlcaaI1
import Derived.Test.YtempfagjbpnlcaaS4
import Derived.Test.YtempfagjbpnlcaaN9i
namespace Go.Proofs.Ytempfagjbpnlcaa
open Go.RowKit

theorem ints_atD {w : World} {b o : Nat} {zs : List Int} (hc : ∀ j u, (zs.map (Value.int .i64))[j]? = some u → w.cell? ⟨b, o + j, none⟩ = some u) {k : Nat} (hk : k < zs.length) :
    w.cell? ⟨b, o + k, none⟩ = some (.int .i64 (zs.getD k 0)) := by rw [getD_get hk]; exact ints_at hc hk
theorem upTo_le {zs : List Int} {i m : Nat} (h : m ≤ i) : upTo zs (up zs) i m ≤ i + 1 := by
  rcases upTo_from zs (up zs) i m with h1 | ⟨k, h1, _, h3⟩
  · omega
  · have := up_le zs k; omega

theorem first_litI (W : World) : (W.alloc (.cells #[] 3)).ownsRow W.heap.size 3 1 (.slice (some ⟨W.heap.size, 0, none⟩) 0 0) 0 [] := World.ownsRow_lit W #[] 0 (Nat.le_refl _) (by simp [maxLen]) rfl
end Go.Proofs.Ytempfagjbpnlcaa
