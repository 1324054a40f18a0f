/- What 'spec.someRow' draws. No condition. -/
import Derived.Test.YtjklnknlifpidaaDr
import Derived.Test.YtjklnknlifpidaaRd2
import Derived.Test.YtjklnknlifpidaaS1
namespace Go.Proofs.Ytjklnknlifpidaa
open Go.RowKit

theorem own_some' {w : World} {base : Nat} {e : TypeId} {size n c : Nat} {A : Option Addr} {xs : List Value} (h : w.ownsRow base e size (.slice A n c) n xs) (hn : 0 < n) : ∃ g, A = some ⟨g, 0, none⟩ := by
  obtain ⟨g, hA, _⟩ := own_some h hn
  exact ⟨g, hA⟩

theorem own_out {w : World} {base : Nat} {e : TypeId} {n c g : Nat} {xs : List Value} (h : w.ownsRow base e 1 (.slice (some ⟨g, 0, none⟩) n c) n xs) : Own w (base + 1) w.heap.size (some ⟨g, 0, none⟩) xs := by
  obtain ⟨A, c', hv, _, ho⟩ := own_of_row h
  simp only [Value.slice.injEq] at hv
  obtain ⟨rfl, _, _⟩ := hv
  exact ho

theorem first_lit (W : World) (base : Nat) (h : base ≤ W.heap.size) : (W.alloc (.cells #[] 3)).ownsRow base 3 1 (.slice (some ⟨W.heap.size, 0, none⟩) 0 0) 0 [] :=
  World.ownsRow_lit W #[] 0 h (by simp [maxLen]) rfl

theorem first_lit' (W : World) (base g : Nat) (h : base ≤ W.heap.size) (hg : W.heap.size = g) : (W.alloc (.cells #[] 3)).ownsRow base 3 1 (.slice (some ⟨g, 0, none⟩) 0 0) 0 [] := by
  subst hg; exact first_lit W base h
end Go.Proofs.Ytjklnknlifpidaa
