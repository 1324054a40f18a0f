/- A slice of routes that came in, opened. No condition. -/
import Derived.Test.YtphfolmhlcmbjaaDoorRowAid
import Derived.Test.YtphfolmhlcmbjaaDoorQ1
import Derived.Deep.SlicePairs
import Derived.ChangeArms
namespace Go.Proofs.YtphfolmhlcmbjaaDoor
open Go.RowKit
open Go.ChangeShapes Go.WideShapes Go.ChangeAt Go.Deep

theorem flat_map_range (V0 : Nat → ByteArray) (V1 : Nat → Int) (n j : Nat) (u : Value) (h : (flat ((List.range n).map fun i => (V0 i, V1 i)))[j]? = some u) :
    (∃ i, i < n ∧ ((j = i * 2 ∧ u = .string (V0 i)) ∨ (j = i * 2 + 1 ∧ u = .int .i64 (V1 i)))) := by
  have hj : j < 2 * n := by
    have := (List.getElem?_eq_some_iff.1 h).1
    rw [flat_length] at this
    simpa using this
  have hi : j / 2 < ((List.range n).map fun i => (V0 i, V1 i)).length := by simp; omega
  have g := flat_get ((List.range n).map fun i => (V0 i, V1 i)) (j / 2) hi
  refine ⟨j / 2, by omega, ?_⟩
  rcases Nat.mod_two_eq_zero_or_one j with h0 | h0
  · left
    have e : j = j / 2 * 2 := by omega
    refine ⟨e, ?_⟩
    rw [e, g.1] at h
    simpa using h.symm
  · right
    have e : j = j / 2 * 2 + 1 := by omega
    refine ⟨e, ?_⟩
    rw [e, g.2] at h
    simpa using h.symm

theorem routes_of {H : Type} {enc : TypeId × Value → H} {P : Program} {W : World} {base fuel len0 cap0 : Nat} {sp : Nat → Bool} {held : Bool} {a0 : Option Addr} {t e : TypeId} {f0 f1 : Field} {x : DataW H × List MemPlace}
    (ht : P.underlying t = some (.slice e)) (he : P.underlying e = some (.struct #[f0, f1])) (ce : P.cellsOf e = 2) (o0 : f0.offset = 0) (o1 : f1.offset = 1) (c0 : P.cellsOf f0.type = 1) (c1 : P.cellsOf f1.type = 1)
    (t0 : P.underlying f0.type = some .string) (t1 : P.underlying f1.type = some (.int .i64))
    (h : DataW.trod enc P W base sp held fuel t (Value.slice a0 len0 cap0).cells.toList = some x) :
    ∃ rs : List (ByteArray × Int), rs.length = len0 ∧ Own W 0 W.heap.size a0 (flat rs) ∧ (rs.length ≤ cap0 ∧ cap0 ≤ maxLen ∧ ∀ r ∈ rs, r.1.size ≤ maxLen ∧ (Lit.int .i64 r.2).wf = true) := by
  rcases open_slice_pairs ht he ce o0 o1 c0 c1 h with ⟨hcs, _⟩ | ⟨⟨b, off, spot⟩, l, c, m, n, V0, V1, D0, D1, P0, P1, hcs, _, hl, hm, hmm, _, hx⟩
  · simp [Value.cells] at hcs
    obtain ⟨rfl, rfl, rfl⟩ := hcs
    exact ⟨[], rfl, .inl rfl, by simp, by simp, by simp⟩
  · simp [Value.cells] at hcs
    obtain ⟨rfl, rfl, rfl⟩ := hcs
    have hlm : len0 ≤ m := by rw [hmm]; split <;> omega
    have each : ∀ i, i < len0 → ∃ q : ByteArray × Int, W.cell? ((⟨b, off, spot⟩ : Addr).add (i * 2)) = some (.string q.1) ∧ W.cell? ((⟨b, off, spot⟩ : Addr).add (i * 2 + 1)) = some (.int .i64 q.2) ∧ q.1.size ≤ maxLen ∧ (Lit.int .i64 q.2).wf = true := by
      intro i hi
      obtain ⟨g0, g1, d0, d1⟩ := hx i (by omega)
      obtain ⟨s, hs, _, hsz⟩ := DataW.trod_string t0 d0
      obtain ⟨z, hz, _, hwf⟩ := DataW.trod_int t1 d1
      simp only [List.cons.injEq, and_true] at hs hz
      rw [hs] at g0
      rw [hz] at g1
      exact ⟨(s, z), g0, g1, hsz, hwf⟩
    obtain ⟨q, hq⟩ := choose_lt each
    refine ⟨(List.range len0).map fun i => ((q i).1, (q i).2), by simp, ?_, by simpa using hl, hm, ?_⟩
    · by_cases h0 : len0 = 0
      · subst h0; exact .inl (by simp [flat])
      · have hc0 := (hq 0 (by omega)).1
        have hspot : spot = none := by simpa [Addr.add] using World.cell?_spot hc0
        subst hspot
        refine .inr ⟨b, off, rfl, by omega, World.block_lt_of_cell? W _ hc0, fun j u hu => ?_, fun h => by omega⟩
        obtain ⟨i, hi, hcase⟩ := flat_map_range _ _ _ _ _ hu
        have gi := hq i hi
        rw [Addr.add_lit, Addr.add_lit] at gi
        rcases hcase with ⟨rfl, rfl⟩ | ⟨rfl, rfl⟩
        · exact gi.1
        · exact gi.2.1
    · intro r hr
      simp only [List.mem_map, List.mem_range] at hr
      obtain ⟨i, hi, rfl⟩ := hr
      exact ⟨(hq i hi).2.2.1, (hq i hi).2.2.2⟩
end Go.Proofs.YtphfolmhlcmbjaaDoor
