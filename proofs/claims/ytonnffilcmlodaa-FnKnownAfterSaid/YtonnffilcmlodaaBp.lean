/- A row put behind rows, made by a call that also wrote the reader. No condition. -/
import Derived.Test.YtonnffilcmlodaaG6
import Derived.Test.YtonnffilcmlodaaRd2
namespace Go.Proofs.Ytonnffilcmlodaa
open Go.RowKit

theorem Built.push2 {w1 w2 w3 : World} {base : Nat} {H H' R : Option Addr} {c c' cR : Nat} {hs : List Value} {rs : List (List Int)} {r : List Int}
    (h : Built w1 base H c hs rs) (hbase : base ≤ w1.heap.size) (h' : Built w2 base H c hs rs) (hb : w1.heap.size ≤ w2.heap.size) (hR : OwnInts w2 w1.heap.size w2.heap.size R r) (hc : r.length ≤ cR)
    (hown : w3.ownsRow base 28 1 (.slice H' (rs.length + 1) c') (rs.length + 1) (hs ++ [.slice R r.length cR])) (hg : w2.grownBy w3 (Value.slice H rs.length c).ownBlock)
    (hl : H'.map (·.block) = H.map (·.block) ∨ H'.map (·.block) = some (w2.heap.size + 1)) : Built w3 base H' c' (hs ++ [.slice R r.length cR]) (rs ++ [r]) := by
  obtain ⟨h1, h2, h3⟩ := h
  have hHlt : ∀ i, H.map (·.block) = some i → i < w1.heap.size := fun i hi => (h1.lt i (by rw [slice_block]; exact hi)).2
  rw [slice_block] at hg
  have hold : ∀ (i : Nat) (hi : i < rs.length) (A : Option Addr) (cA : Nat), rs[i] ≠ [] → hs[i]? = some (.slice A rs[i].length cA) → ∃ b o, A = some ⟨b, o, none⟩ ∧ b < w1.heap.size := by
    intro i hi A cA hne hA
    obtain ⟨A', c2, g1, _, g3⟩ := h2.2 i hi
    rw [g1] at hA
    simp only [Option.some.injEq, Value.slice.injEq] at hA
    obtain ⟨rfl, _, _⟩ := hA
    obtain ⟨b, o, hA2, hlt, _⟩ := g3.open (by simp; exact List.length_pos_iff.2 hne)
    exact ⟨b, o, hA2, hlt⟩
  have hnew : r ≠ [] → ∃ b o, R = some ⟨b, o, none⟩ ∧ w1.heap.size ≤ b ∧ b < w2.heap.size := by
    intro hne
    obtain ⟨b, o, hA2, h0, hlt, _⟩ := hR.open' (by omega) (by simp; exact List.length_pos_iff.2 hne)
    exact ⟨b, o, hA2, by omega, hlt⟩
  have hget : ∀ (i : Nat) (hi : i < rs.length), (rs ++ [r])[i]'(by simp; omega) = rs[i] := fun i hi => List.getElem_append_left hi
  have hgetn : (rs ++ [r])[rs.length]'(by simp) = r := by simp
  have hsl : hs.length = rs.length := h2.1
  refine ⟨by simpa using hown, ⟨by simp [hsl], fun i hi => ?_⟩, ?_, ?_⟩
  · simp only [List.length_append, List.length_cons, List.length_nil] at hi
    by_cases hir : i < rs.length
    · obtain ⟨A, c2, g1, g2, g3⟩ := h2.2 i hir
      rw [hget i hir]
      refine ⟨A, c2, by rw [List.getElem?_append_left (by omega)]; exact g1, g2, ?_⟩
      obtain ⟨A', c2', g1', _, g4⟩ := h'.2.1.2 i hir
      rw [g1] at g1'
      simp only [Option.some.injEq, Value.slice.injEq] at g1'
      obtain ⟨rfl, _, rfl⟩ := g1'
      by_cases hne : rs[i] = []
      · exact .inl (by rw [hne]; rfl)
      · obtain ⟨b, o, rfl, hblt⟩ := hold i hir A c2 hne g1
        have hap := h3.2 i hir _ c2 hne g1
        have hb2 := hb
        rcases g4 with g4 | ⟨b', o', hA, k0, klt, kc, kf⟩
        · exact .inl g4
        · simp only [Option.some.injEq, Addr.mk.injEq, and_true] at hA
          obtain ⟨rfl, rfl⟩ := hA
          have hbl := hg.block b (by omega) (fun e => hap e.symm.symm)
          exact .inr ⟨b, o, rfl, k0, by have := hg.size; omega, fun j u hu => (World.cell?_of_block (a := ⟨b, o + j, none⟩) hbl).trans (kc j u hu), fun h j => (World.frozen?_of_block (a := ⟨b, j, none⟩) hbl).trans (kf h j)⟩
    · have hie : i = rs.length := by omega
      subst hie
      rw [hgetn]
      refine ⟨R, cR, by rw [List.getElem?_append_right (by omega), hsl]; simp, hc, ?_⟩
      exact ((hR.apart (Nat.le_refl _) hg (fun i hi => hHlt i hi)).more hg.size).less (by omega)
  · intro i j hi hj A B cA cB hij hne1 hne2 hA hB
    simp only [List.length_append, List.length_cons, List.length_nil] at hi hj
    by_cases hir : i < rs.length
    · rw [hget i hir] at hne1 hA
      rw [List.getElem?_append_left (by omega)] at hA
      by_cases hjr : j < rs.length
      · rw [hget j hjr] at hne2 hB
        rw [List.getElem?_append_left (by omega)] at hB
        exact h3.1 i j hir hjr A B cA cB hij hne1 hne2 hA hB
      · have hje : j = rs.length := by omega
        subst hje
        rw [hgetn] at hne2 hB
        rw [List.getElem?_append_right (by omega), hsl] at hB
        simp at hB
        obtain ⟨rfl, _⟩ := hB
        obtain ⟨b, o, rfl, hb1⟩ := hold i hir A cA hne1 hA
        obtain ⟨b', o', rfl, hb2, _⟩ := hnew hne2
        simp; omega
    · have hie : i = rs.length := by omega
      subst hie
      have hjr : j < rs.length := by omega
      rw [hgetn] at hne1 hA
      rw [List.getElem?_append_right (by omega), hsl] at hA
      simp at hA
      obtain ⟨rfl, _⟩ := hA
      rw [hget j hjr] at hne2 hB
      rw [List.getElem?_append_left (by omega)] at hB
      obtain ⟨b, o, rfl, hb1⟩ := hold j hjr B cB hne2 hB
      obtain ⟨b', o', rfl, hb2, _⟩ := hnew hne1
      simp; omega
  · intro i hi A cA hne hA
    simp only [List.length_append, List.length_cons, List.length_nil] at hi
    have hb2 := hb
    by_cases hir : i < rs.length
    · rw [hget i hir] at hne hA
      rw [List.getElem?_append_left (by omega)] at hA
      rcases hl with hl | hl
      · rw [hl]; exact h3.2 i hir A cA hne hA
      · obtain ⟨b, o, rfl, hb1⟩ := hold i hir A cA hne hA
        rw [hl]; simp; omega
    · have hie : i = rs.length := by omega
      subst hie
      rw [hgetn] at hne hA
      rw [List.getElem?_append_right (by omega), hsl] at hA
      simp at hA
      obtain ⟨rfl, _⟩ := hA
      obtain ⟨b, o, rfl, hb1, hb3⟩ := hnew hne
      rcases hl with hl | hl
      · intro e
        rw [hl] at e
        have := hHlt b (by rw [← e]; rfl)
        omega
      · rw [hl]; simp; omega
end Go.Proofs.Ytonnffilcmlodaa
