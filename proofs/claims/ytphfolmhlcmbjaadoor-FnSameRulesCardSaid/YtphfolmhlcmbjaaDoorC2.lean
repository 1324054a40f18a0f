/- Texts that are digits, and the check at their end. No condition. -/
import Derived.Test.YtphfolmhlcmbjaaDoorC1
import Derived.Laws.RangeAny
namespace Go.Proofs.YtphfolmhlcmbjaaDoor
open Go.RowKit

def isDig (b : UInt8) : Bool := decide (48 ≤ b.toNat ∧ b.toNat ≤ 57)
def onlyD (l : List UInt8) : Bool := l.all isDig

theorem iter_below (w : World) (s : ByteArray) (p : Nat) : Below w.heap.size w (w.iter s p) := (Below.refl _ _).alloc (Nat.le_refl _) _

theorem byte_get (s : ByteArray) (k : Nat) (h : k < s.size) : s.data.toList[k]? = some (s[k]'h) := by
  have : k < s.data.toList.length := by rw [Array.length_toList]; exact h
  rw [List.getElem?_eq_getElem this]
  rfl
end Go.Proofs.YtphfolmhlcmbjaaDoor
