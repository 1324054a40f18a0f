/- Rows of rows that the call made, written in place. No condition. -/
import Derived.Test.YtempfagjbpnlcaaG3
namespace Go.Proofs.Ytempfagjbpnlcaa
open Go.RowKit

/-- Block g is a row of heads, each of a row of the call's own, none of which shares memory. -/
def MG (w : World) (base g : Nat) (hs : List Value) (rs : List (List Int)) : Prop :=
  w.heap[g]? = some (.cells hs.toArray 23 (0, 0)) ∧ base ≤ g ∧ GridAt w (base + 1) w.heap.size hs rs ∧ GridApart (some g) hs rs

theorem lt_of_heap {w : World} {g : Nat} {o : Obj} (h : w.heap[g]? = some o) : g < w.heap.size := by
  rcases Nat.lt_or_ge g w.heap.size with hlt | hge
  · exact hlt
  · rw [Array.getElem?_eq_none hge] at h; cases h

theorem own_block {w : World} {base : Nat} {e : TypeId} {g : Nat} {xs : List Value} (h : w.heap[g]? = some (.cells xs.toArray e (0, 0))) (hb : base ≤ g) : Own w (base + 1) w.heap.size (some ⟨g, 0, none⟩) xs := by
  refine .inr ⟨g, 0, rfl, by omega, lt_of_heap h, fun j u hu => ?_, fun _ j => frozen_of_row w g j _ e h⟩
  rw [cell_of_row w g (0 + j) _ e (0, 0) h, Nat.zero_add]
  simpa using hu

section
variable {w w0 w' : World} {base g : Nat} {hs : List Value} {rs : List (List Int)}
theorem MG.mgrid (h : MG w base g hs rs) : MGrid w base w.heap.size (some ⟨g, 0, none⟩) rs := ⟨hs, own_block h.1 h.2.1, h.2.2.1, h.2.2.2⟩
theorem MG.lt (h : MG w base g hs rs) : g < w.heap.size := lt_of_heap h.1
theorem MG.keep (h : MG w base g hs rs) (hb : Below w.heap.size w w') : MG w' base g hs rs :=
  ⟨(hb.block g h.lt).trans h.1, h.2.1, (h.2.2.1.below hb).more hb.size, h.2.2.2⟩
theorem MG.head (h : MG w base g hs rs) {k : Nat} (hk : k < rs.length) : ∃ R c, w.cell? ⟨g, k, none⟩ = some (.slice R rs[k].length c) ∧ hs[k]? = some (.slice R rs[k].length c) ∧ rs[k].length ≤ c ∧ Own w (base + 1) w.heap.size R (rs[k].map (Value.int .i64)) := by
  obtain ⟨R, c, h1, h2, h3⟩ := h.2.2.1.2 k hk
  refine ⟨R, c, ?_, h1, h2, h3⟩
  rw [cell_of_row w g k _ _ (0, 0) h.1]
  simpa using h1
theorem MG.frozen (h : MG w base g hs rs) (j : Nat) : w.frozen? ⟨g, j, none⟩ = false := frozen_of_row w g j _ _ h.1

/-- A row of the call's own, made since, put in at place k. -/
theorem MG.setHead (h : MG w0 base g hs rs) (hb : Below w0.heap.size w0 w) {R : Option Addr} {c k : Nat} {r : List Int} (hR : OwnInts w w0.heap.size w.heap.size R r) (hc : r.length ≤ c) (hk : k < rs.length) :
    MG (w.setCell ⟨g, k, none⟩ (.slice R r.length c)) base g (hs.set k (.slice R r.length c)) (rs.set k r) := by
  have hg0 := h.lt
  have hg1 : w.heap[g]? = some (.cells hs.toArray 23 (0, 0)) := (hb.block g hg0).trans h.1
  obtain ⟨_, hbase, hgr, hap⟩ := h
  have hsl : hs.length = rs.length := hgr.1
  have hz := hb.size
  have hold : ∀ (i : Nat) (hi : i < rs.length) (A : Option Addr) (cA : Nat), rs[i] ≠ [] → hs[i]? = some (.slice A rs[i].length cA) → ∃ b o, A = some ⟨b, o, none⟩ ∧ b < w0.heap.size := by
    intro i hi A cA hne hA
    obtain ⟨A', c2, g1, _, g3⟩ := hgr.2 i hi
    rw [g1] at hA
    simp only [Option.some.injEq, Value.slice.injEq] at hA
    obtain ⟨rfl, _, _⟩ := hA
    obtain ⟨b, o, hA2, hlt, _⟩ := g3.open (by simp; exact List.length_pos_iff.2 hne)
    exact ⟨b, o, hA2, hlt⟩
  have hnew : r ≠ [] → ∃ b o, R = some ⟨b, o, none⟩ ∧ w0.heap.size ≤ b ∧ b < w.heap.size := by
    intro hne
    obtain ⟨b, o, hA2, h0, hlt, _⟩ := hR.open' (by omega) (by simp; exact List.length_pos_iff.2 hne)
    exact ⟨b, o, hA2, by omega, hlt⟩
  have hother : ∀ (B : Nat) (A : Option Addr) (xs : List Value), Own w (base + 1) B A xs → (xs ≠ [] → ∀ b o, A = some ⟨b, o, none⟩ → b ≠ g) → Own (w.setCell ⟨g, k, none⟩ (.slice R r.length c)) (base + 1) B A xs := by
    intro B A xs ho hne
    rcases ho with ho | ⟨b, o, rfl, h0, hlt, hcc, hf⟩
    · exact .inl ho
    · by_cases hx : xs = []
      · exact .inl hx
      · have hbg := hne hx b o rfl
        have hblk : (w.setCell ⟨g, k, none⟩ (.slice R r.length c)).heap[b]? = w.heap[b]? := Below.heap_setCell _ _ _ _ (fun e => hbg e)
        exact .inr ⟨b, o, rfl, h0, hlt, fun j u hu => (World.cell?_of_block (a := ⟨b, o + j, none⟩) hblk).trans (hcc j u hu), fun h j => (World.frozen?_of_block (a := ⟨b, j, none⟩) hblk).trans (hf h j)⟩
  have hsz : (w.setCell ⟨g, k, none⟩ (.slice R r.length c)).heap.size = w.heap.size := by simp [World.setCell]
  refine ⟨?_, hbase, ⟨by simp [hsl], fun i hi => ?_⟩, ?_, ?_⟩
  · rw [heap_setCell_same w g k _ _ _ hg1]
    simp
  · rw [hsz]
    simp only [List.length_set] at hi
    by_cases hik : k = i
    · subst hik
      refine ⟨R, c, by rw [List.getElem?_set_self (by omega), List.getElem_set_self], by rw [List.getElem_set_self]; exact hc, ?_⟩
      rw [List.getElem_set_self]
      refine hother _ _ _ (hR.less (by omega)) (fun hx b o hR' => ?_)
      obtain ⟨b', o', h1, h2, _⟩ := hnew (by intro e; exact hx (by rw [e]; rfl))
      rw [h1] at hR'
      simp at hR'
      omega
    · obtain ⟨A, cA, g1, g2, g3⟩ := hgr.2 i hi
      rw [List.getElem_set_ne hik]
      refine ⟨A, cA, by rw [List.getElem?_set_ne hik]; exact g1, g2, ?_⟩
      refine hother _ _ _ ((g3.below hb).more hz) (fun hx b o hA => ?_)
      have := hap.2 i hi A cA (by intro e; exact hx (by rw [e]; rfl)) g1
      rw [hA] at this
      simpa using this
  · intro i j hi hj A B cA cB hij hne1 hne2 hA hB
    simp only [List.length_set] at hi hj
    by_cases hik : k = i
    · subst hik
      rw [List.getElem_set_self] at hne1 hA
      rw [List.getElem?_set_self (by omega)] at hA
      rw [List.getElem_set_ne hij] at hne2 hB
      rw [List.getElem?_set_ne hij] at hB
      simp only [Option.some.injEq, Value.slice.injEq] at hA
      obtain ⟨rfl, _, _⟩ := hA
      obtain ⟨b, o, rfl, h1, _⟩ := hnew hne1
      obtain ⟨b', o', rfl, h2⟩ := hold j hj B cB hne2 hB
      simp; omega
    · rw [List.getElem_set_ne hik] at hne1 hA
      rw [List.getElem?_set_ne hik] at hA
      by_cases hjk : k = j
      · subst hjk
        rw [List.getElem_set_self] at hne2 hB
        rw [List.getElem?_set_self (by omega)] at hB
        simp only [Option.some.injEq, Value.slice.injEq] at hB
        obtain ⟨rfl, _, _⟩ := hB
        obtain ⟨b, o, rfl, h1, _⟩ := hnew hne2
        obtain ⟨b', o', rfl, h2⟩ := hold i hi A cA hne1 hA
        simp; omega
      · rw [List.getElem_set_ne hjk] at hne2 hB
        rw [List.getElem?_set_ne hjk] at hB
        exact hap.1 i j hi hj A B cA cB hij hne1 hne2 hA hB
  · intro i hi A cA hne hA
    simp only [List.length_set] at hi
    by_cases hik : k = i
    · subst hik
      rw [List.getElem_set_self] at hne hA
      rw [List.getElem?_set_self (by omega)] at hA
      simp only [Option.some.injEq, Value.slice.injEq] at hA
      obtain ⟨rfl, _, _⟩ := hA
      obtain ⟨b, o, rfl, h1, _⟩ := hnew hne
      simp; omega
    · rw [List.getElem_set_ne hik] at hne hA
      rw [List.getElem?_set_ne hik] at hA
      exact hap.2 i hi A cA hne hA

/-- A number put into row k, at place j. -/
theorem MG.setNum (h : MG w base g hs rs) {k j b o c : Nat} {v : Int} (hk : k < rs.length) (hj : j < rs[k].length) (hh : hs[k]? = some (.slice (some ⟨b, o, none⟩) rs[k].length c)) :
    MG (w.setCell ⟨b, o + j, none⟩ (.int .i64 v)) base g hs (rs.set k (rs[k].set j v)) := by
  obtain ⟨hblk, hbase, hgr, hap⟩ := h
  have hrk : rs[k] ≠ [] := by intro e; rw [e] at hj; simp at hj
  have hbg : b ≠ g := by
    have := hap.2 k hk _ c hrk hh
    simpa using this
  have hsz : (w.setCell ⟨b, o + j, none⟩ (.int .i64 v)).heap.size = w.heap.size := by simp [World.setCell]
  have hlen : ∀ (i : Nat) (hi : i < rs.length), ((rs.set k (rs[k].set j v))[i]'(by simpa using hi)).length = rs[i].length := fun i hi => by
    by_cases hik : k = i
    · subst hik; rw [List.getElem_set_self, List.length_set]
    · rw [List.getElem_set_ne hik]
  refine ⟨(Below.heap_setCell _ _ _ _ (fun e => hbg e.symm)).trans hblk, hbase, ⟨by simp [hgr.1], fun i hi => ?_⟩, apart_marks hap (by simp) (fun i hi => hlen i hi)⟩
  simp only [List.length_set] at hi
  rw [hsz]
  obtain ⟨A, cA, g1, g2, g3⟩ := hgr.2 i hi
  by_cases hik : k = i
  · subst hik
    rw [g1] at hh
    simp only [Option.some.injEq, Value.slice.injEq, true_and] at hh
    obtain ⟨rfl, rfl⟩ := hh
    refine ⟨_, cA, by rw [hlen k hi]; exact g1, by rw [hlen k hi]; exact g2, ?_⟩
    rw [List.getElem_set_self, List.map_set]
    exact g3.set j _
  · refine ⟨A, cA, by rw [hlen i hi]; exact g1, by rw [hlen i hi]; exact g2, ?_⟩
    rw [List.getElem_set_ne hik]
    rcases g3 with g3 | ⟨b', o', rfl, h0, hlt, hcc, hf⟩
    · exact .inl g3
    · by_cases hx : rs[i] = []
      · exact .inl (by rw [hx]; rfl)
      · have hne := hap.1 k i hk hi _ _ c cA hik hrk hx hh g1
        have hblk2 : (w.setCell ⟨b, o + j, none⟩ (.int .i64 v)).heap[b']? = w.heap[b']? := Below.heap_setCell _ _ _ _ (fun e => hne (by simp at e; simp [e]))
        exact .inr ⟨b', o', rfl, h0, hlt, fun j u hu => (World.cell?_of_block (a := ⟨b', o' + j, none⟩) hblk2).trans (hcc j u hu), fun h j => (World.frozen?_of_block (a := ⟨b', j, none⟩) hblk2).trans (hf h j)⟩
end
end Go.Proofs.Ytempfagjbpnlcaa
