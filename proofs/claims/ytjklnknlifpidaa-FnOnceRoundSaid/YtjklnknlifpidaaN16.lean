/- spec.ApartOf, impl.ApartOf. No condition. -/
import Derived.Test.YtjklnknlifpidaaN11
import Derived.Test.YtjklnknlifpidaaN15
namespace Go.Proofs.Ytjklnknlifpidaa
open Go.RowKit

/-- The least ways of a town, or nothing. -/
def IsApart (n : Int) (rs V : List (List Int)) : Prop := (townB n rs = false ∧ V = []) ∨ (townB n rs = true ∧ ∃ D, IsDist n.toNat (rs.map st) D ∧ V = mat n.toNat D)
theorem exists_apart (n : Int) (rs : List (List Int)) : ∃ V, IsApart n rs V := by
  cases h : townB n rs with
  | false => exact ⟨[], .inl ⟨h, rfl⟩⟩
  | true =>
    obtain ⟨D, hD⟩ := exists_dist n.toNat (rs.map st)
    exact ⟨_, .inr ⟨h, D, hD, rfl⟩⟩
theorem IsApart.no {n : Int} {rs V : List (List Int)} (hV : IsApart n rs V) (h : townB n rs = false) : V = [] := by
  rcases hV with ⟨_, h2⟩ | ⟨h2, _⟩
  · exact h2
  · rw [h] at h2; cases h2
theorem IsApart.yes {n : Nat} {rs V : List (List Int)} {D : Nat → Nat → Int} (hV : IsApart n rs V) (h : townB n rs = true) (hD : IsDist n (rs.map st) D) : V = mat n D := by
  rcases hV with ⟨h2, _⟩ | ⟨_, D2, hD2, h3⟩
  · rw [h] at h2; cases h2
  · rw [h3]; exact mat_one hD2 hD
theorem IsApart.bd {n : Int} {rs V : List (List Int)} (hV : IsApart n rs V) : V.length ≤ 5 ∧ ∀ r ∈ V, r.length ≤ 5 := by
  rcases hV with ⟨_, h2⟩ | ⟨h2, D, _, h3⟩
  · subst h2; simp
  · obtain ⟨m, rfl, _, hm, _⟩ := townB_parts h2
    subst h3
    refine ⟨by rw [mat_len]; simpa using hm, fun r hr => ?_⟩
    obtain ⟨i, _, rfl⟩ := List.mem_map.1 hr
    rw [tab_length]; simpa using hm
theorem total_le {rs : List (List Int)} {n : Nat} (h : ∀ r ∈ rs, r.length ≤ n) : total rs ≤ rs.length * n := by
  induction rs with
  | nil => simp [total]
  | cons r rs ih =>
    have h1 := h r (by simp)
    have h2 := ih (fun x hx => h x (by simp [hx]))
    simp only [total, List.map_cons, List.sum_cons, List.length_cons] at h2 ⊢
    rw [Nat.add_mul]; omega
theorem gRes.none {V : List (List Int)} (hV : V = []) {w w' : World} (hb : Below w.heap.size w w') : gRes w V (.returned (.slice none 0 0)) w' := by
  subst hV
  exact ⟨Option.none, 0, rfl, Nat.le_refl _, MGrid.nil _ _ _ _, hb⟩
theorem mgridLess {w : World} {base base2 B : Nat} {A : Option Addr} {rs : List (List Int)} (h : MGrid w base B A rs) (hb : base2 ≤ base) : MGrid w base2 B A rs := by
  obtain ⟨hs, h1, h2, h3⟩ := h
  exact ⟨hs, h1.less (by omega), h2.less (by omega), h3⟩
theorem gRes.wide {V : List (List Int)} {w w1 w' : World} {e : Ending} (h : gRes w1 V e w') (hb : Below w.heap.size w w1) : gRes w V e w' := by
  obtain ⟨A, c, h1, h2, h3, h4⟩ := h
  exact ⟨A, c, h1, h2, mgridLess h3 hb.size, hb.trans (h4.mono hb.size)⟩

theorem street_len {n : Nat} {rs : List (List Int)} (h : rs.all (okS n) = true) : ∀ s ∈ rs.map st, s.2.2 ≤ 20 := fun s hs => by
  obtain ⟨r, hr, rfl⟩ := List.mem_map.1 hs
  obtain ⟨j, hj, rfl⟩ := List.getElem_of_mem hr
  obtain ⟨a, b, l, _, _, _, _, hl, hst⟩ := street_row h hj
  rw [hst]; exact hl
end Go.Proofs.Ytjklnknlifpidaa
