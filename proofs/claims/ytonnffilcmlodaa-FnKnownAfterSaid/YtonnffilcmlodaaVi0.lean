/- Rows that are put to rows, many at once. No condition. -/
import Derived.Test.YtonnffilcmlodaaVd
import Derived.Test.YtonnffilcmlodaaG6
import Derived.Test.YtonnffilcmlodaaG3
import Derived.Test.YtonnffilcmlodaaH6
namespace Go.Proofs.Ytonnffilcmlodaa
open Go.RowKit

theorem Built.pushAll {w1 w2 w3 : World} {base : Nat} {H H' : Option Addr} {c c' : Nat} {hs gs : List Value} {rs ss : List (List Int)}
    (h : Built w1 base H c hs rs) (hbase : base ≤ w1.heap.size) (hb : Below w1.heap.size w1 w2) (hG : GridAt w2 (w1.heap.size + 1) w2.heap.size gs ss) (hA : GridApart none gs ss)
    (hown : w3.ownsRow base 28 1 (.slice H' (rs.length + ss.length) c') (rs.length + ss.length) (hs ++ gs)) (hg : w2.grownBy w3 (Value.slice H rs.length c).ownBlock)
    (hl : H'.map (·.block) = H.map (·.block) ∨ ∃ b', H'.map (·.block) = some b' ∧ w2.heap.size ≤ b') : Built w3 base H' c' (hs ++ gs) (rs ++ ss) := by
  obtain ⟨h1, h2, h3⟩ := h
  have hHlt : ∀ i, H.map (·.block) = some i → i < w1.heap.size := fun i hi => (h1.lt i (by rw [slice_block]; exact hi)).2
  rw [slice_block] at hg
  have hold : ∀ (i : Nat) (hi : i < rs.length) (A : Option Addr) (cA : Nat), rs[i] ≠ [] → hs[i]? = some (.slice A rs[i].length cA) → ∃ b o, A = some ⟨b, o, none⟩ ∧ b < w1.heap.size := by
    intro i hi A cA hne hA
    obtain ⟨A', c2, g1, _, g3⟩ := h2.2 i hi
    rw [g1] at hA
    simp only [Option.some.injEq, Value.slice.injEq] at hA
    obtain ⟨rfl, _, _⟩ := hA
    obtain ⟨b, o, hA2, hlt, _⟩ := g3.open (by simp; exact List.length_pos_iff.2 hne)
    exact ⟨b, o, hA2, hlt⟩
  have hnew : ∀ (i : Nat) (hi : i < ss.length) (A : Option Addr) (cA : Nat), ss[i] ≠ [] → gs[i]? = some (.slice A ss[i].length cA) → ∃ b o, A = some ⟨b, o, none⟩ ∧ w1.heap.size ≤ b ∧ b < w2.heap.size := by
    intro i hi A cA hne hA
    obtain ⟨A', c2, g1, _, g3⟩ := hG.2 i hi
    rw [g1] at hA
    simp only [Option.some.injEq, Value.slice.injEq] at hA
    obtain ⟨rfl, _, _⟩ := hA
    obtain ⟨b, o, hA2, h0, hlt, _⟩ := g3.open' (by omega) (by simp; exact List.length_pos_iff.2 hne)
    exact ⟨b, o, hA2, by omega, hlt⟩
  have hget : ∀ (i : Nat) (hi : i < rs.length), (rs ++ ss)[i]'(by simp; omega) = rs[i] := fun i hi => List.getElem_append_left hi
  have hgetn : ∀ (i : Nat) (hi : i < (rs ++ ss).length) (hr : rs.length ≤ i), (rs ++ ss)[i] = ss[i - rs.length]'(by simp at hi; omega) := fun i hi hr => List.getElem_append_right hr
  have hsl : hs.length = rs.length := h2.1
  have hgl : gs.length = ss.length := hG.1
  refine ⟨by simpa using hown, ⟨by simp [hsl, hgl], fun i hi => ?_⟩, ?_, ?_⟩
  · by_cases hir : i < rs.length
    · obtain ⟨A, c2, g1, g2, g3⟩ := h2.2 i hir
      rw [hget i hir]
      refine ⟨A, c2, by rw [List.getElem?_append_left (by omega)]; exact g1, g2, ?_⟩
      have g4 := g3.below hb
      by_cases hne : rs[i] = []
      · exact .inl (by rw [hne]; rfl)
      · obtain ⟨b, o, rfl, hblt⟩ := hold i hir A c2 hne g1
        have hap := h3.2 i hir _ c2 hne g1
        have hb2 := hb.size
        rcases g4 with g4 | ⟨b', o', hA, k0, klt, kc, kf⟩
        · exact .inl g4
        · simp only [Option.some.injEq, Addr.mk.injEq, and_true] at hA
          obtain ⟨rfl, rfl⟩ := hA
          have hbl := hg.block b (by omega) (fun e => hap e.symm.symm)
          exact .inr ⟨b, o, rfl, k0, by have := hg.size; omega, fun j u hu => (World.cell?_of_block (a := ⟨b, o + j, none⟩) hbl).trans (kc j u hu), fun h j => (World.frozen?_of_block (a := ⟨b, j, none⟩) hbl).trans (kf h j)⟩
    · have hil : i - rs.length < ss.length := by simp at hi; omega
      obtain ⟨R, cR, g1, g2, g3⟩ := hG.2 (i - rs.length) hil
      rw [hgetn i hi (by omega)]
      refine ⟨R, cR, by rw [List.getElem?_append_right (by omega), hsl]; exact g1, g2, ?_⟩
      exact ((Own.apart g3 (Nat.le_refl _) hg (fun i hi => hHlt i hi)).more hg.size).less (by omega)
  · intro i j hi hj A B cA cB hij hne1 hne2 hA1 hB1
    by_cases hir : i < rs.length
    · rw [hget i hir] at hne1 hA1
      rw [List.getElem?_append_left (by omega)] at hA1
      by_cases hjr : j < rs.length
      · rw [hget j hjr] at hne2 hB1
        rw [List.getElem?_append_left (by omega)] at hB1
        exact h3.1 i j hir hjr A B cA cB hij hne1 hne2 hA1 hB1
      · rw [hgetn j hj (by omega)] at hne2 hB1
        rw [List.getElem?_append_right (by omega), hsl] at hB1
        obtain ⟨b, o, rfl, hb1⟩ := hold i hir A cA hne1 hA1
        obtain ⟨b', o', rfl, hb2, _⟩ := hnew _ (by simp at hj; omega) B cB hne2 hB1
        simp; omega
    · rw [hgetn i hi (by omega)] at hne1 hA1
      rw [List.getElem?_append_right (by omega), hsl] at hA1
      by_cases hjr : j < rs.length
      · rw [hget j hjr] at hne2 hB1
        rw [List.getElem?_append_left (by omega)] at hB1
        obtain ⟨b, o, rfl, hb1⟩ := hold j hjr B cB hne2 hB1
        obtain ⟨b', o', rfl, hb2, _⟩ := hnew _ (by simp at hi; omega) A cA hne1 hA1
        simp; omega
      · rw [hgetn j hj (by omega)] at hne2 hB1
        rw [List.getElem?_append_right (by omega), hsl] at hB1
        exact hA.1 (i - rs.length) (j - rs.length) (by simp at hi; omega) (by simp at hj; omega) A B cA cB (by omega) hne1 hne2 hA1 hB1
  · intro i hi A cA hne hA1
    have hb2 := hb.size
    by_cases hir : i < rs.length
    · rw [hget i hir] at hne hA1
      rw [List.getElem?_append_left (by omega)] at hA1
      rcases hl with hl | ⟨b', hl, hlb⟩
      · rw [hl]; exact h3.2 i hir A cA hne hA1
      · obtain ⟨b, o, rfl, hb1⟩ := hold i hir A cA hne hA1
        rw [hl]; simp; omega
    · rw [hgetn i hi (by omega)] at hne hA1
      rw [List.getElem?_append_right (by omega), hsl] at hA1
      obtain ⟨b, o, rfl, hb1, hb3⟩ := hnew _ (by simp at hi; omega) A cA hne hA1
      rcases hl with hl | ⟨b', hl, hlb⟩
      · intro e
        have := hHlt b (by rw [← hl]; simpa using e.symm)
        omega
      · rw [hl]; simp; omega
/-- A row of two numbers, laid just ahead. -/
theorem pair_own (w : World) (x y : Int) : OwnInts (w.alloc (.cells #[.int .i64 x, .int .i64 y] 3)) w.heap.size (w.alloc (.cells #[.int .i64 x, .int .i64 y] 3)).heap.size (some ⟨w.heap.size, 0, none⟩) [x, y] :=
  own_block (e := 3) (heap_alloc_new w _) (Nat.le_refl _)
end Go.Proofs.Ytonnffilcmlodaa
