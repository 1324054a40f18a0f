/- Contracts. No condition. -/
import Derived.Test.YtamkaodbegjfpaaDoorA1
import Derived.Test.YtamkaodbegjfpaaDoorRd2
namespace Go.Proofs.YtamkaodbegjfpaaDoor
open Go.RowKit

def checkF (zs : List Int) : Int := if validD zs then chk zs 0 % 11 else -1

def eqI (xs ys : List Int) : Bool := decide (xs = ys)

theorem eqI_ne {xs ys : List Int} {k : Nat} (h1 : k < xs.length) (h2 : k < ys.length) (h : xs[k] ≠ ys[k]) : eqI xs ys = false := by
  simp only [eqI, decide_eq_false_iff_not]
  rintro rfl
  exact h rfl

theorem eqI_of {xs ys : List Int} (h : xs.length = ys.length) (h2 : xs.take xs.length = ys.take xs.length) : eqI xs ys = true := by
  rw [List.take_length, List.take_of_length_le (by omega)] at h2
  simp [eqI, h2]
end Go.Proofs.YtamkaodbegjfpaaDoor
