/- Houses that are drawn. No condition. -/
import Derived.Test.YtonnffilcmlodaaG6
import Derived.Test.YtonnffilcmlodaaRd2
namespace Go.Proofs.Ytonnffilcmlodaa
open Go.RowKit

def Two (rs : List (List Int)) : Prop := ∀ r ∈ rs, r.length ≤ 2
theorem Two.push {rs : List (List Int)} {r : List Int} (h : Two rs) (hr : r.length ≤ 2) : Two (rs ++ [r]) := fun x hx => by
  rcases List.mem_append.1 hx with hx | hx
  · exact h x hx
  · simp at hx; rw [hx]; exact hr
theorem Two.set {rs : List (List Int)} {r : List Int} {k : Nat} (h : Two rs) (hr : r.length ≤ 2) : Two (rs.set k r) := fun x hx => by
  rcases List.mem_or_eq_of_mem_set hx with hx | rfl
  · exact h x hx
  · exact hr

theorem one_at (g p : Nat) (w : World) (hrd : Rd w g p) (hp : p ≤ 1000000) (zs : List Int) (hz : 0 < zs.length) (hl : zs.length ≤ 1000000) (n a : Nat) (hn : zs.length = n) (ha : a = w.heap.size) (vs : Array Value) (hvs : vs = (zs.map (Value.int .i64)).toArray) :
    Calls Try.prog 49 #[.pointer (some ⟨g, 0, none⟩), .slice (some ⟨a, 0, none⟩) n n] (w.alloc (.cells vs 3)) fun e w' => ∃ k : Int, e = .returned (.int .i64 k) ∧ k ∈ zs ∧ Rd w' g (p + 1) ∧ w.grownBy w' (some g) := by
  subst ha
  exact one_lit g p w hrd hp zs hz hl n hn vs hvs
end Go.Proofs.Ytonnffilcmlodaa
