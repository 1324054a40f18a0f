/- Towns, plain: the least ways step by step; a matrix in memory. No condition. -/
import Derived.Test.YtonnffilcmlodaaN0
import Derived.Test.YtonnffilcmlodaaG6
import Derived.Test.YtonnffilcmlodaaS0
import Derived.Test.YtonnffilcmlodaaH1
namespace Go.Proofs.Ytonnffilcmlodaa
open Go.RowKit

/-- The least ways over corners below m, at the places 'dn' over m too. -/
def Fw (n : Nat) (ss : List St) (m : Nat) (M : Int) (dn : Nat → Nat → Prop) (D : Nat → Nat → Int) : Prop :=
  ∀ i k, i < n → k < n → -1 ≤ D i k ∧ (0 ≤ D i k → ∃ w : Nat, D i k = (w : Int) ∧ Wk ss n i k w) ∧
    (∀ w, Wk ss m i k w → 0 ≤ D i k ∧ D i k ≤ (w : Int)) ∧ (dn i k → ∀ w, Wk ss (m + 1) i k w → 0 ≤ D i k ∧ D i k ≤ (w : Int)) ∧
    D i k ≤ 2 * M ∧ ((i = m ∨ k = m) → D i k ≤ M)
def upd (D : Nat → Nat → Int) (i k : Nat) (v : Int) : Nat → Nat → Int := fun i' k' => if i' = i ∧ k' = k then v else D i' k'
def FwC (D : Nat → Nat → Int) (m i k : Nat) : Prop := 0 ≤ D i m ∧ 0 ≤ D m k ∧ (D i k < 0 ∨ D i m + D m k < D i k)
section
variable {n m i k j : Nat} {M : Int} {ss : List St} {dn dn' : Nat → Nat → Prop} {D : Nat → Nat → Int}
theorem Fw.diag (h : Fw n ss m M dn D) (hi : i < n) : D i i = 0 := by
  obtain ⟨_, _, h3, _⟩ := h i i hi hi
  have := h3 0 (Wk.nil ..)
  omega
theorem Fw.put (h : Fw n ss m M dn D) (hm : m < n) (hi : i < n) (hk : k < n) (hc : FwC D m i k) (hd : ∀ i' k', dn' i' k' → dn i' k' ∨ (i' = i ∧ k' = k)) : Fw n ss m M dn' (upd D i k (D i m + D m k)) := by
  obtain ⟨c1, c2, c3⟩ := hc
  have hmm := h.diag hm
  intro i' k' hi' hk'
  obtain ⟨h1, h2, h3, h4, h5, h6⟩ := h i' k' hi' hk'
  unfold upd
  by_cases e : i' = i ∧ k' = k
  · obtain ⟨rfl, rfl⟩ := e
    rw [if_pos ⟨rfl, rfl⟩]
    obtain ⟨a1, a2, a3, a4, a5, a6⟩ := h i' m hi' hm
    obtain ⟨b1, b2, b3, b4, b5, b6⟩ := h m k' hm hk'
    have a7 := a6 (.inr rfl)
    have b7 := b6 (.inl rfl)
    refine ⟨by omega, fun _ => ?_, fun w hw => ?_, fun _ w hw => ?_, by omega, fun hh => ?_⟩
    · obtain ⟨x, hx, wx⟩ := a2 c1
      obtain ⟨y, hy, wy⟩ := b2 c2
      exact ⟨x + y, by omega, Wk.cat hm wx wy⟩
    · have := h3 w hw
      omega
    · rcases hw.split with ⟨w', hw', hw2⟩ | ⟨x, y, hx, hy, hxy⟩
      · have := h3 w' hw2
        omega
      · have := a3 x hx
        have := b3 y hy
        omega
    · exfalso
      rcases hh with rfl | rfl
      · omega
      · omega
  · rw [if_neg e]
    refine ⟨h1, h2, h3, fun hdn => ?_, h5, h6⟩
    rcases hd i' k' hdn with h7 | h7
    · exact h4 h7
    · exact absurd h7 e
theorem Fw.stay (h : Fw n ss m M dn D) (hm : m < n) (hi : i < n) (hk : k < n) (hc : ¬ FwC D m i k) (hd : ∀ i' k', dn' i' k' → dn i' k' ∨ (i' = i ∧ k' = k)) : Fw n ss m M dn' D := by
  intro i' k' hi' hk'
  obtain ⟨h1, h2, h3, h4, h5, h6⟩ := h i' k' hi' hk'
  refine ⟨h1, h2, h3, fun hdn w hw => ?_, h5, h6⟩
  rcases hd i' k' hdn with h7 | ⟨rfl, rfl⟩
  · exact h4 h7 w hw
  · rcases hw.split with ⟨w', hw', hw2⟩ | ⟨x, y, hx, hy, hxy⟩
    · have := h3 w' hw2
      omega
    · have a := (h i' m hi' hm).2.2.1 x hx
      have b := (h m k' hm hk').2.2.1 y hy
      have : ¬ (D i' k' < 0 ∨ D i' m + D m k' < D i' k') := fun hh => hc ⟨a.1, b.1, hh⟩
      omega
theorem Fw.next (h : Fw n ss m M dn D) (hd : ∀ i k, i < n → k < n → dn i k) : Fw n ss (m + 1) (2 * M) (fun _ _ => False) D := by
  intro i k hi hk
  obtain ⟨h1, h2, h3, h4, h5, h6⟩ := h i k hi hk
  exact ⟨h1, h2, h4 (hd i k hi hk), fun hh => hh.elim, by omega, fun _ => h5⟩
theorem Fw.done (h : Fw n ss n M dn D) : IsDist n ss D := fun i k hi hk => by
  obtain ⟨h1, h2, h3, _⟩ := h i k hi hk
  exact ⟨h1, h2, h3⟩

/-- The streets so far. -/
def Sx (n : Nat) (ss : List St) (j : Nat) (D : Nat → Nat → Int) : Prop :=
  (∀ i k, i < n → k < n → -1 ≤ D i k ∧ D i k ≤ 20 ∧ D i k = D k i ∧ (0 ≤ D i k → ∃ w : Nat, D i k = (w : Int) ∧ Wk ss n i k w)) ∧ (∀ i, i < n → D i i = 0) ∧ ∀ s ∈ ss.take j, 0 ≤ D s.1 s.2.1 ∧ D s.1 s.2.1 ≤ (s.2.2 : Int)
theorem Sx.start (n : Nat) (ss : List St) : Sx n ss 0 (fun i k => if i = k then 0 else -1) := by
  refine ⟨fun i k _ _ => ?_, fun i _ => by simp, fun s hs => by simp at hs⟩
  by_cases e : i = k
  · subst e
    simp only [if_true]
    exact ⟨by omega, by omega, trivial, fun _ => ⟨0, rfl, Wk.nil ..⟩⟩
  · simp only [if_neg e, if_neg (fun h : k = i => e h.symm)]
    exact ⟨by omega, by omega, trivial, fun h => by omega⟩
theorem Sx.put {a b l : Nat} (h : Sx n ss j D) (hj : j < ss.length) (hs : ss[j] = (a, b, l)) (ha : a < n) (hb : b < n) (hl : 1 ≤ l) (hl2 : l ≤ 20) (hc : D a b < 0 ∨ (l : Int) < D a b) : Sx n ss (j + 1) (upd (upd D a b l) b a l) := by
  obtain ⟨h1, h2, h3⟩ := h
  have hmem : (a, b, l) ∈ ss := by rw [← hs]; exact List.getElem_mem hj
  have hne : a ≠ b := fun e => by subst e; have := h2 a ha; omega
  have hv : ∀ i k, upd (upd D a b l) b a l i k = if (i = b ∧ k = a) ∨ (i = a ∧ k = b) then (l : Int) else D i k := fun i k => by
    unfold upd
    by_cases e1 : i = b ∧ k = a
    · simp [e1]
    · by_cases e2 : i = a ∧ k = b
      · rw [if_neg e1, if_pos e2, if_pos (.inr e2)]
      · rw [if_neg e1, if_neg e2, if_neg (fun h => h.elim e1 e2)]
  refine ⟨fun i k hi hk => ?_, fun i hi => ?_, fun s hs2 => ?_⟩
  · rw [hv, hv]
    obtain ⟨g1, g2, g3, g4⟩ := h1 i k hi hk
    by_cases e : (i = b ∧ k = a) ∨ (i = a ∧ k = b)
    · rw [if_pos e, if_pos (by rcases e with ⟨e1, e2⟩ | ⟨e1, e2⟩; exact .inr ⟨e2, e1⟩; exact .inl ⟨e2, e1⟩)]
      refine ⟨by omega, by omega, rfl, fun _ => ⟨l, rfl, ?_⟩⟩
      rcases e with ⟨rfl, rfl⟩ | ⟨rfl, rfl⟩
      · exact Wk.back hmem
      · exact Wk.to hmem
    · rw [if_neg e, if_neg (by intro e'; rcases e' with ⟨e1, e2⟩ | ⟨e1, e2⟩; exact e (.inr ⟨e2, e1⟩); exact e (.inl ⟨e2, e1⟩))]
      exact ⟨g1, g2, g3, g4⟩
  · rw [hv, if_neg (by rintro (⟨rfl, e⟩ | ⟨rfl, e⟩); exact hne e.symm; exact hne e)]
    exact h2 i hi
  · rw [hv]
    rw [List.take_succ_eq_append_getElem hj, List.mem_append, List.mem_singleton, hs] at hs2
    rcases hs2 with hs2 | rfl
    · have := h3 s hs2
      by_cases e : (s.1 = b ∧ s.2.1 = a) ∨ (s.1 = a ∧ s.2.1 = b)
      · rw [if_pos e]
        have hsy := (h1 a b ha hb).2.2.1
        rcases e with ⟨e1, e2⟩ | ⟨e1, e2⟩
        · rw [e1, e2] at this; omega
        · rw [e1, e2] at this; omega
      · rw [if_neg e]; exact this
    · rw [if_pos (.inr ⟨rfl, rfl⟩)]
      simp only
      omega
theorem Sx.stay {a b l : Nat} (h : Sx n ss j D) (hj : j < ss.length) (hs : ss[j] = (a, b, l)) (hc : ¬ (D a b < 0 ∨ (l : Int) < D a b)) : Sx n ss (j + 1) D := by
  obtain ⟨h1, h2, h3⟩ := h
  refine ⟨h1, h2, fun s hs2 => ?_⟩
  rw [List.take_succ_eq_append_getElem hj, List.mem_append, List.mem_singleton, hs] at hs2
  rcases hs2 with hs2 | rfl
  · exact h3 s hs2
  · simp only
    omega
theorem Sx.fw (h : Sx n ss ss.length D) : Fw n ss 0 20 (fun _ _ => False) D := by
  obtain ⟨h1, h2, h3⟩ := h
  rw [List.take_length] at h3
  intro i k hi hk
  obtain ⟨g1, g2, g3, g4⟩ := h1 i k hi hk
  refine ⟨g1, g4, fun w hw => ?_, fun hh => hh.elim, by omega, fun _ => g2⟩
  rcases hw.zero with ⟨rfl, rfl⟩ | hs | hs
  · rw [h2 i hi]; omega
  · exact h3 _ hs
  · rw [g3]; exact h3 _ hs
end
theorem exists_dist (n : Nat) (ss : List St) : ∃ D, IsDist n ss D := by
  have hmin : ∀ (P : Nat → Prop) (w : Nat), P w → ∃ v, P v ∧ ∀ u, P u → v ≤ u := by
    intro P w
    induction w using Nat.strongRecOn with
    | ind w ih =>
      intro hw
      by_cases h : ∃ u, u < w ∧ P u
      · obtain ⟨u, hu, hp⟩ := h
        exact ih u hu hp
      · exact ⟨w, hw, fun u hu => by
          rcases Nat.lt_or_ge u w with h1 | h1
          · exact absurd ⟨u, h1, hu⟩ h
          · exact h1⟩
  have hall : ∀ i : Nat, ∃ f : Nat → Int, ∀ k, -1 ≤ f k ∧ (0 ≤ f k → ∃ w : Nat, f k = (w : Int) ∧ Wk ss n i k w) ∧ ∀ w, Wk ss n i k w → 0 ≤ f k ∧ f k ≤ (w : Int) := fun i => by
    have hk : ∀ k : Nat, ∃ d : Int, -1 ≤ d ∧ (0 ≤ d → ∃ w : Nat, d = (w : Int) ∧ Wk ss n i k w) ∧ ∀ w, Wk ss n i k w → 0 ≤ d ∧ d ≤ (w : Int) := fun k => by
      by_cases h : ∃ w, Wk ss n i k w
      · obtain ⟨w, hw⟩ := h
        obtain ⟨v, hv, hm⟩ := hmin (fun w => Wk ss n i k w) w hw
        exact ⟨v, by omega, fun _ => ⟨v, rfl, hv⟩, fun u hu => by have := hm u hu; omega⟩
      · exact ⟨-1, by omega, fun h => by omega, fun w hw => absurd ⟨w, hw⟩ h⟩
    exact Classical.axiomOfChoice hk
  obtain ⟨D, hD⟩ := Classical.axiomOfChoice hall
  exact ⟨D, fun i k _ _ => hD i k⟩
/-- The ways from the corner 0 tell what is reached. -/
theorem dist_reach {n : Nat} {ss : List St} {D : Nat → Nat → Int} (h : IsDist n ss D) (hn : ∀ s ∈ ss, s.1 < n ∧ s.2.1 < n) {i : Nat} (h0 : 0 < n) (hi : i < n) : decide (D 0 i < 0) = !reach ss 0 i := by
  obtain ⟨h1, h2, h3⟩ := h 0 i h0 hi
  cases hr : reach ss 0 i with
  | true =>
    obtain ⟨w, hw⟩ := (reach_iff hn 0 i).1 hr
    have := (h3 w hw).1
    simp; omega
  | false =>
    have : ¬ 0 ≤ D 0 i := fun hd => by
      obtain ⟨w, _, hw⟩ := h2 hd
      rw [(reach_iff hn 0 i).2 ⟨w, hw⟩] at hr; cases hr
    simp; omega

/-- A square of numbers. -/
def mat (n : Nat) (D : Nat → Nat → Int) : List (List Int) := (List.range n).map fun i => tab n (D i)
theorem mat_len (n : Nat) (D : Nat → Nat → Int) : (mat n D).length = n := by simp [mat]
theorem mat_get {n i : Nat} {D : Nat → Nat → Int} (hi : i < n) : (mat n D)[i]'(by rw [mat_len]; exact hi) = tab n (D i) := by simp [mat]
theorem mat_congr {n : Nat} {D E : Nat → Nat → Int} (h : ∀ i k, i < n → k < n → D i k = E i k) : mat n D = mat n E := by
  unfold mat
  refine List.map_congr_left fun i hi => ?_
  exact tab_congr fun k hk => h i k (List.mem_range.1 hi) hk
theorem mat_one {n : Nat} {ss : List St} {D E : Nat → Nat → Int} (h : IsDist n ss D) (g : IsDist n ss E) : mat n D = mat n E := mat_congr fun _ _ hi hk => h.one g hi hk

/-- A square of numbers in memory, each row in a block of its own. -/
def MatAt (w : World) (base g o n : Nat) (b f c : Nat → Nat) (D : Nat → Nat → Int) : Prop :=
  (base ≤ g ∧ g < w.heap.size ∧ ∀ j, w.frozen? ⟨g, j, none⟩ = false) ∧
  (∀ i, i < n → w.cell? ⟨g, o + i, none⟩ = some (.slice (some ⟨b i, f i, none⟩) n (c i)) ∧ base ≤ b i ∧ b i < w.heap.size ∧ b i ≠ g ∧ n ≤ c i ∧ (∀ k, k < n → w.cell? ⟨b i, f i + k, none⟩ = some (.int .i64 (D i k))) ∧ ∀ j, w.frozen? ⟨b i, j, none⟩ = false) ∧
  ∀ i j, i < n → j < n → i ≠ j → b i ≠ b j
section
variable {w w' : World} {base g o n : Nat} {b f c : Nat → Nat} {D : Nat → Nat → Int}
theorem MatAt.keep (h : MatAt w base g o n b f c D) (hb : Below w.heap.size w w') : MatAt w' base g o n b f c D := by
  obtain ⟨⟨h1, h2, h3⟩, h4, h5⟩ := h
  have hz := hb.size
  refine ⟨⟨h1, by omega, fun j => by rw [hb.frozen (p := ⟨g, j, none⟩) h2]; exact h3 j⟩, fun i hi => ?_, h5⟩
  obtain ⟨g1, g2, g3, g4, g5, g6, g7⟩ := h4 i hi
  exact ⟨by rw [hb.cell (p := ⟨g, o + i, none⟩) h2]; exact g1, g2, by omega, g4, g5, fun k hk => by rw [hb.cell (p := ⟨b i, f i + k, none⟩) g3]; exact g6 k hk, fun j => by rw [hb.frozen (p := ⟨b i, j, none⟩) g3]; exact g7 j⟩
theorem MatAt.put (h : MatAt w base g o n b f c D) {i k : Nat} {v : Int} (hi : i < n) (hk : k < n) : MatAt (w.setCell ⟨b i, f i + k, none⟩ (.int .i64 v)) base g o n b f c (upd D i k v) := by
  obtain ⟨⟨h1, h2, h3⟩, h4, h5⟩ := h
  have hsz : (w.setCell ⟨b i, f i + k, none⟩ (.int .i64 v)).heap.size = w.heap.size := by simp [World.setCell]
  obtain ⟨a1, a2, a3, a4, a5, a6, a7⟩ := h4 i hi
  refine ⟨⟨h1, by omega, fun j => by rw [World.frozen?_setCell]; exact h3 j⟩, fun i' hi' => ?_, h5⟩
  obtain ⟨g1, g2, g3, g4, g5, g6, g7⟩ := h4 i' hi'
  refine ⟨?_, g2, by omega, g4, g5, fun k' hk' => ?_, fun j => by rw [World.frozen?_setCell]; exact g7 j⟩
  · rw [World.cell?_setCell_other w _ _ _ (by intro e; injection e with e1; exact a4 (by first | exact e1 | exact e1.symm))]
    exact g1
  · unfold upd
    by_cases e : i' = i ∧ k' = k
    · obtain ⟨rfl, rfl⟩ := e
      rw [if_pos ⟨rfl, rfl⟩, World.cell?_setCell_same w _ _ (a6 k' hk')]
    · rw [if_neg e, World.cell?_setCell_other w _ _ _ ?_]
      · exact g6 k' hk'
      · intro e2
        injection e2 with e3 e4
        by_cases e5 : i' = i
        · subst e5; exact e ⟨rfl, by omega⟩
        · exact h5 i' i hi' hi e5 (by first | exact e3 | exact e3.symm)
theorem MatAt.congr {E : Nat → Nat → Int} (h : MatAt w base g o n b f c D) (he : ∀ i k, i < n → k < n → E i k = D i k) : MatAt w base g o n b f c E := by
  obtain ⟨h1, h4, h5⟩ := h
  refine ⟨h1, fun i hi => ?_, h5⟩
  obtain ⟨g1, g2, g3, g4, g5, g6, g7⟩ := h4 i hi
  exact ⟨g1, g2, g3, g4, g5, fun k hk => by rw [he i k hi hk]; exact g6 k hk, g7⟩
theorem MatAt.mgrid (h : MatAt w base g o n b f c D) : MGrid w base w.heap.size (some ⟨g, o, none⟩) (mat n D) := by
  obtain ⟨⟨h1, h2, h3⟩, h4, h5⟩ := h
  have hhs : ∀ i, ((List.range n).map fun i => Value.slice (some ⟨b i, f i, none⟩) n (c i))[i]? = if i < n then some (.slice (some ⟨b i, f i, none⟩) n (c i)) else none := fun i => by
    rw [List.getElem?_map]
    by_cases hi : i < n
    · rw [if_pos hi, List.getElem?_range hi]; rfl
    · rw [if_neg hi, List.getElem?_eq_none (by simp; omega)]; rfl
  have hlen : ∀ i (hi : i < (mat n D).length), ((mat n D)[i]).length = n := fun i hi => by
    rw [mat_len] at hi
    rw [mat_get hi, tab_length]
  refine ⟨(List.range n).map fun i => Value.slice (some ⟨b i, f i, none⟩) n (c i), .inr ⟨g, o, rfl, by omega, h2, fun j u hu => ?_, fun _ j => h3 j⟩, ⟨by simp [mat], fun i hi => ?_⟩, fun i j hi hj A B ca cb hij _ _ hA hB => ?_, fun i hi A ca _ hA => ?_⟩
  · rw [hhs] at hu
    split at hu
    · rename_i hj
      injection hu with hu
      subst hu
      exact (h4 j hj).1
    · cases hu
  · have hi2 : i < n := by rwa [mat_len] at hi
    obtain ⟨g1, g2, g3, g4, g5, g6, g7⟩ := h4 i hi2
    rw [hlen i hi]
    refine ⟨some ⟨b i, f i, none⟩, c i, by rw [hhs, if_pos hi2], g5, .inr ⟨b i, f i, rfl, by omega, g3, fun j u hu => ?_, fun _ j => g7 j⟩⟩
    rw [mat_get hi2] at hu
    have hj : j < n := by
      have := (List.getElem?_eq_some_iff.1 hu).1
      simpa [tab_length] using this
    rw [tab_vals_get hj] at hu
    injection hu with hu
    subst hu
    exact g6 j hj
  · rw [mat_len] at hi hj
    rw [hhs, if_pos hi] at hA
    rw [hhs, if_pos hj] at hB
    simp only [Option.some.injEq, Value.slice.injEq] at hA hB
    obtain ⟨rfl, _⟩ := hA
    obtain ⟨rfl, _⟩ := hB
    simpa using h5 i j hi hj hij
  · rw [mat_len] at hi
    rw [hhs, if_pos hi] at hA
    simp only [Option.some.injEq, Value.slice.injEq] at hA
    obtain ⟨rfl, _⟩ := hA
    simpa using (h4 i hi).2.2.2.1
theorem MatAt.of (h : MGrid w base w.heap.size (some ⟨g, o, none⟩) (mat n D)) (hn : 0 < n) : ∃ b f c, MatAt w base g o n b f c D := by
  obtain ⟨hs, h1, h2, h3, h4⟩ := h
  obtain ⟨g', o', e, g0, g1, g2, g3⟩ := h1.open' (by omega) (by rw [h2.1, mat_len]; exact hn)
  simp only [Option.some.injEq, Addr.mk.injEq, and_true] at e
  obtain ⟨rfl, rfl⟩ := e
  have hall : ∀ i : Nat, ∃ q : Nat × Nat × Nat, i < n → hs[i]? = some (.slice (some ⟨q.1, q.2.1, none⟩) n q.2.2) ∧ base ≤ q.1 ∧ q.1 < w.heap.size ∧ n ≤ q.2.2 ∧ (∀ k, k < n → w.cell? ⟨q.1, q.2.1 + k, none⟩ = some (.int .i64 (D i k))) ∧ ∀ j, w.frozen? ⟨q.1, j, none⟩ = false := fun i => by
    by_cases hi : i < n
    · obtain ⟨A, c, k1, k2, k3⟩ := h2.2 i (by rw [mat_len]; exact hi)
      rw [mat_get hi, tab_length] at k1 k2
      rw [mat_get hi] at k3
      obtain ⟨b, f, rfl, m0, m1, m2, m3⟩ := k3.open' (by omega) (by simp [tab_length]; exact hn)
      exact ⟨(b, f, c), fun _ => ⟨k1, by simp only; omega, m1, k2, fun k hk => m2 k _ (tab_vals_get hk), m3⟩⟩
    · exact ⟨(0, 0, 0), fun h => absurd h hi⟩
  obtain ⟨q, hq⟩ := Classical.axiomOfChoice hall
  have hrow : ∀ i, i < n → (mat n D)[i]? ≠ some [] := fun i hi e => by
    rw [List.getElem?_eq_getElem (by rw [mat_len]; exact hi), mat_get hi] at e
    injection e with e
    have := congrArg List.length e
    rw [tab_length] at this
    simp at this; omega
  refine ⟨fun i => (q i).1, fun i => (q i).2.1, fun i => (q i).2.2, ⟨by omega, g1, g3⟩, fun i hi => ?_, fun i j hi hj hij => ?_⟩
  · obtain ⟨k1, k2, k3, k4, k5, k6⟩ := hq i hi
    refine ⟨g2 i _ k1, k2, k3, ?_, k4, k5, k6⟩
    have hl : (mat n D)[i]'(by rw [mat_len]; exact hi) = tab n (D i) := mat_get hi
    have := h4 i (by rw [mat_len]; exact hi) (some ⟨(q i).1, (q i).2.1, none⟩) (q i).2.2 (fun e => hrow i hi (by rw [List.getElem?_eq_getElem (by rw [mat_len]; exact hi), e])) (by rw [hl, tab_length]; exact k1)
    simpa using this
  · obtain ⟨k1, _⟩ := hq i hi
    obtain ⟨l1, _⟩ := hq j hj
    have := h3 i j (by rw [mat_len]; exact hi) (by rw [mat_len]; exact hj) (some ⟨(q i).1, (q i).2.1, none⟩) (some ⟨(q j).1, (q j).2.1, none⟩) (q i).2.2 (q j).2.2 hij (fun e => hrow i hi (by rw [List.getElem?_eq_getElem (by rw [mat_len]; exact hi), e])) (fun e => hrow j hj (by rw [List.getElem?_eq_getElem (by rw [mat_len]; exact hj), e])) (by rw [mat_get hi, tab_length]; exact k1) (by rw [mat_get hj, tab_length]; exact l1)
    simpa using this
end
end Go.Proofs.Ytonnffilcmlodaa
