/- spec.OddsOf, impl.OddsOf. No condition. -/
import Derived.Test.YtekckjjfggclnaaN10
namespace Go.Proofs.Ytekckjjfggclnaa
open Go.RowKit

def oddsV (n : Int) (rs : List (List Int)) : List Int := if townB n rs then oddsTo n.toNat (rs.map st) else []
theorem oddsV_no {n : Int} {rs : List (List Int)} (h : townB n rs = false) : oddsV n rs = [] := by unfold oddsV; rw [h]; rfl
theorem oddsV_yes {n : Nat} {rs : List (List Int)} (h : townB n rs = true) : oddsV n rs = oddsTo n (rs.map st) := by unfold oddsV; rw [h]; rfl
theorem oddsV_len (n : Int) (rs : List (List Int)) : (oddsV n rs).length ≤ 5 := by
  cases h : townB n rs with
  | false => rw [oddsV_no h]; simp
  | true =>
    obtain ⟨m, rfl, _, hm, _⟩ := townB_parts h
    rw [oddsV_yes h]
    have := oddsTo_len (rs.map st) m
    omega
theorem iRes.none {V : List Int} (hV : V = []) {w w' : World} (hb : Below w.heap.size w w') : iRes w V (.returned (.slice none 0 0)) w' := by
  subst hV
  exact ⟨Option.none, 0, rfl, Nat.le_refl _, .inl rfl, hb⟩
theorem iRes.wide {V : List Int} {w w1 w' : World} {e : Ending} (h : iRes w1 V e w') (hb : Below w.heap.size w w1) : iRes w V e w' := by
  obtain ⟨A, c, h1, h2, h3, h4⟩ := h
  exact ⟨A, c, h1, h2, Own.less h3 (by have := hb.size; omega), hb.trans (h4.mono hb.size)⟩

theorem fresh_fst (ss : List St) : (fresh ss).map Prod.fst = ss := by unfold fresh; rw [List.map_map]; exact List.map_id ss
theorem fresh_len (rs : List (List Int)) : (fresh (rs.map st)).length = rs.length := by simp [fresh]
theorem fresh_lt {n : Nat} {rs : List (List Int)} (hok : rs.all (okS n) = true) : ∀ s ∈ fresh (rs.map st), s.1.1 < n ∧ s.1.2.1 < n := fun s hs => by
  obtain ⟨s', hs', rfl⟩ := List.mem_map.1 hs
  exact street_lt hok s' hs'
end Go.Proofs.Ytekckjjfggclnaa
