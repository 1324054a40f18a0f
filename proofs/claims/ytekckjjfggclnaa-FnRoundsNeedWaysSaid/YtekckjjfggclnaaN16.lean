/- spec.ApartOf, impl.ApartOf. No condition. -/
import Derived.Test.YtekckjjfggclnaaN11
import Derived.Test.YtekckjjfggclnaaN15
namespace Go.Proofs.Ytekckjjfggclnaa
open Go.RowKit

/-- The least ways of a town, or nothing. -/
def IsApart (n : Int) (rs V : List (List Int)) : Prop := (townB n rs = false ∧ V = []) ∨ (townB n rs = true ∧ ∃ D, IsDist n.toNat (rs.map st) D ∧ V = mat n.toNat D)
theorem exists_apart (n : Int) (rs : List (List Int)) : ∃ V, IsApart n rs V := by
  cases h : townB n rs with
  | false => exact ⟨[], .inl ⟨h, rfl⟩⟩
  | true =>
    obtain ⟨D, hD⟩ := exists_dist n.toNat (rs.map st)
    exact ⟨_, .inr ⟨h, D, hD, rfl⟩⟩
theorem IsApart.no {n : Int} {rs V : List (List Int)} (hV : IsApart n rs V) (h : townB n rs = false) : V = [] := by
  rcases hV with ⟨_, h2⟩ | ⟨h2, _⟩
  · exact h2
  · rw [h] at h2; cases h2
theorem IsApart.yes {n : Nat} {rs V : List (List Int)} {D : Nat → Nat → Int} (hV : IsApart n rs V) (h : townB n rs = true) (hD : IsDist n (rs.map st) D) : V = mat n D := by
  rcases hV with ⟨h2, _⟩ | ⟨_, D2, hD2, h3⟩
  · rw [h] at h2; cases h2
  · rw [h3]; exact mat_one hD2 hD
theorem IsApart.bd {n : Int} {rs V : List (List Int)} (hV : IsApart n rs V) : V.length ≤ 5 ∧ ∀ r ∈ V, r.length ≤ 5 := by
  rcases hV with ⟨_, h2⟩ | ⟨h2, D, _, h3⟩
  · subst h2; simp
  · obtain ⟨m, rfl, _, hm, _⟩ := townB_parts h2
    subst h3
    refine ⟨by rw [mat_len]; simpa using hm, fun r hr => ?_⟩
    obtain ⟨i, _, rfl⟩ := List.mem_map.1 hr
    rw [tab_length]; simpa using hm
theorem total_le {rs : List (List Int)} {n : Nat} (h : ∀ r ∈ rs, r.length ≤ n) : total rs ≤ rs.length * n := by
  induction rs with
  | nil => simp [total]
  | cons r rs ih =>
    have h1 := h r (by simp)
    have h2 := ih (fun x hx => h x (by simp [hx]))
    simp only [total, List.map_cons, List.sum_cons, List.length_cons] at h2 ⊢
    rw [Nat.add_mul]; omega
theorem gRes.none {V : List (List Int)} (hV : V = []) {w w' : World} (hb : Below w.heap.size w w') : gRes w V (.returned (.slice none 0 0)) w' := by
  subst hV
  exact ⟨Option.none, 0, rfl, Nat.le_refl _, MGrid.nil _ _ _ _, hb⟩
theorem mgridLess {w : World} {base base2 B : Nat} {A : Option Addr} {rs : List (List Int)} (h : MGrid w base B A rs) (hb : base2 ≤ base) : MGrid w base2 B A rs := by
  obtain ⟨hs, h1, h2, h3⟩ := h
  exact ⟨hs, h1.less (by omega), h2.less (by omega), h3⟩
theorem gRes.wide {V : List (List Int)} {w w1 w' : World} {e : Ending} (h : gRes w1 V e w') (hb : Below w.heap.size w w1) : gRes w V e w' := by
  obtain ⟨A, c, h1, h2, h3, h4⟩ := h
  exact ⟨A, c, h1, h2, mgridLess h3 hb.size, hb.trans (h4.mono hb.size)⟩

theorem street_len {n : Nat} {rs : List (List Int)} (h : rs.all (okS n) = true) : ∀ s ∈ rs.map st, s.2.2 ≤ 20 := fun s hs => by
  obtain ⟨r, hr, rfl⟩ := List.mem_map.1 hs
  obtain ⟨j, hj, rfl⟩ := List.getElem_of_mem hr
  obtain ⟨a, b, l, _, _, _, _, hl, hst⟩ := street_row h hj
  rw [hst]; exact hl

set_option maxRecDepth 100000 in
theorem specApartOf_any (A : Option Addr) (c : Nat) (rs : List (List Int)) (n : Int) (w : World) (hr : Grid w 0 w.heap.size A rs) (hl : rs.length ≤ 1000000000) (hs : ∀ r ∈ rs, r.length ≤ 1000000000) {V : List (List Int)} (hV : IsApart n rs V) :
    Calls Try.prog 13 #[.int .i64 n, .slice A rs.length c] w (gRes w V) := by
  have H := Lib.hid (validTown_any A c rs n w hr hl hs)
  have HR := Lib.hid hr
  have HV0 := Lib.hid hV
  clear hs hr hV
  cases h : townB n rs with
  | false =>
    rw [h] at H
    have HF := Lib.hid (HV0.out.no h)
    clear h
    go_enter Try.func13, Try.ntmps13
    go_wp2_with fail
    refine H.out.mono ?_
    rintro e w1 ⟨rfl, hb⟩
    have HB := Lib.hid (gRes.none HF.out hb)
    clear hb
    go_wp2
    go_ret
    exact HB.out
  | true =>
    rw [h] at H
    have HV := Lib.hid h
    obtain ⟨m, rfl, h1, h2, h3, h4, _⟩ := townB_parts h
    have H4 := Lib.hid h4
    clear h h4
    go_enter Try.func13, Try.ntmps13
    go_wp2_with fail
    refine H.out.mono ?_
    rintro e w1 ⟨rfl, hb⟩
    have HB := Lib.hid hb
    have HO := Lib.hid (apart_low A c rs m w1 ((HR.out.below hb).more hb.size) h1 h2 h3 H4.out)
    clear hb
    go_wp2_with fail
    refine HO.out.mono ?_
    rintro e w2 ⟨D, hD, hp⟩
    have hp2 := hp.wide HB.out
    rw [← HV0.out.yes HV.out hD] at hp2
    obtain ⟨A2, c2, rfl, k2, k3, k4⟩ := hp2
    have HK := Lib.hid (And.intro k2 (And.intro k3 k4))
    clear hp hD k2 k3 k4
    go_wp2
    go_ret
    exact ⟨A2, c2, rfl, HK.out.1, HK.out.2.1, HK.out.2.2⟩

set_option maxRecDepth 100000 in
theorem impApartOf_any (A : Option Addr) (c : Nat) (rs : List (List Int)) (n : Int) (w : World) (hr : Grid w 0 w.heap.size A rs) (hs : ∀ r ∈ rs, r.length ≤ 1000000000) {V : List (List Int)} (hV : IsApart n rs V) :
    Calls Try.prog 12 #[.int .i64 n, .slice A rs.length c] w (gRes w V) := by
  have H := Lib.hid (townOf_all A c rs n w hr hs)
  have HV0 := Lib.hid hV
  clear hs hr hV
  cases h : townB n rs with
  | false =>
    have HF := Lib.hid (HV0.out.no h)
    have HT := Lib.hid h
    clear h
    go_enter Try.func12, Try.ntmps12
    go_wp2_with fail
    refine H.out.mono ?_
    rintro e w1 ⟨_, hp⟩
    obtain ⟨rfl, hb⟩ := hp HT.out
    have HB := Lib.hid (gRes.none HF.out hb)
    clear hb hp
    go_wp2
    go_ret
    exact HB.out
  | true =>
    have HT := Lib.hid h
    obtain ⟨m, rfl, h1, h2, h3, h4, h5⟩ := townB_parts h
    have H4 := Lib.hid h4
    have H5 := Lib.hid h5
    clear h h4 h5
    go_enter Try.func12, Try.ntmps12
    go_wp2_with fail
    refine H.out.mono ?_
    rintro e w1 ⟨hp, _⟩
    obtain ⟨A1, c1, bs, rfl, _, ht, hb⟩ := hp HT.out
    have HB := Lib.hid hb
    have ho := apartIn_any A1 c1 w.heap.size m bs (fresh (rs.map st)) w1 ht (by rw [fresh_len]; exact h3) (fresh_lt H4.out) (fun s hs => by
      obtain ⟨s', hs', rfl⟩ := List.mem_map.1 hs
      exact street_len H4.out s' hs') h1 h2
    rw [fresh_len, fresh_fst] at ho
    have HO := Lib.hid ho
    clear hb hp ht ho
    go_wp2_with fail
    refine HO.out.mono ?_
    rintro e w2 ⟨E, hE, hp⟩
    have hp2 := hp.wide HB.out
    rw [← HV0.out.yes HT.out (hE.done fun i k hi hk => town_short (street_lt H4.out) (street_len H4.out) (by rw [List.length_map]; exact h3) H5.out hi hk)] at hp2
    obtain ⟨A2, c2, rfl, k2, k3, k4⟩ := hp2
    have HK := Lib.hid (And.intro k2 (And.intro k3 k4))
    clear hp hE k2 k3 k4
    go_wp2
    go_ret
    exact ⟨A2, c2, rfl, HK.out.1, HK.out.2.1, HK.out.2.2⟩
end Go.Proofs.Ytekckjjfggclnaa
