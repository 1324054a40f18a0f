/- A slice of numbers that a call makes. No condition. -/
import Derived.Test.YtempfagjbpnlcaaDr
import Derived.Test.YtempfagjbpnlcaaA1
import Derived.Test.YtempfagjbpnlcaaA2
import Derived.Test.YtempfagjbpnlcaaG6
namespace Go.Proofs.Ytempfagjbpnlcaa
open Go.RowKit

def iRes (w : World) (V : List Int) (e : Ending) (w' : World) : Prop := ∃ A c, e = .returned (.slice A V.length c) ∧ V.length ≤ c ∧ OwnInts w' w.heap.size w'.heap.size A V ∧ Below w.heap.size w w'
theorem iRes_row {w w' : World} {A : Option Addr} {n c : Nat} {V : List Int} (h : w'.ownsRow w.heap.size 3 1 (.slice A n c) n (V.map (Value.int .i64))) (hn : n = V.length) (hb : Below w.heap.size w w') : iRes w V (.returned (.slice A n c)) w' := by
  subst hn
  exact ⟨A, c, rfl, own_cap h, own_of_rowS (by decide) h, hb⟩
theorem iRes.none {V : List Int} (hV : V = []) {w w' : World} (hb : Below w.heap.size w w') : iRes w V (.returned (.slice none 0 0)) w' := by
  subst hV
  exact ⟨Option.none, 0, rfl, Nat.le_refl _, .inl rfl, hb⟩
theorem iRes.wide {V : List Int} {w w1 w' : World} {e : Ending} (h : iRes w1 V e w') (hb : Below w.heap.size w w1) : iRes w V e w' := by
  obtain ⟨A, c, h1, h2, h3, h4⟩ := h
  exact ⟨A, c, h1, h2, Own.less h3 (by have := hb.size; omega), hb.trans (h4.mono hb.size)⟩
end Go.Proofs.Ytempfagjbpnlcaa
