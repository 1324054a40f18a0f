/- Rows that are put to rows. No condition. -/
import Derived.Test.YtempfagjbpnlcaaG2
import Derived.Test.YtempfagjbpnlcaaDr
namespace Go.Proofs.Ytempfagjbpnlcaa
open Go.RowKit

theorem Try.infoR : (Try.prog.info? 23).map (fun i => (i.zero, i.size, i.bytes)) = some (some (.slice none 0 0), 1, 24) := by kernel_rfl

/-- 'append(out, x)', x laid just ahead, and which block the new slice lies in. -/
theorem wpList_push_at {P : Program} {w : World} {base : Nat} {e : TypeId} {size : Nat} {n : Nat} {xs : List Value} {ops : Array Oper} {rest : List Oper} {o : Oper} {a : Act} {Q : Exit → Act → World → Prop} (hgd : o.guard = none) (s x : Operand) (t : TypeId)
    (ho : o.op = .call { callee := .builtin .append, args := #[s, x], argTypes := #[t, t] })
    (i : TypeInfo) (z : Value) (bytes : Nat) (ht : P.underlying t = some (.slice e)) (hi : P.info? e = some i) (hz : i.zero = some z)
    (hsize : i.size = size) (hby : i.bytes = bytes) (hzs : z.cells.size = size) (hsz : 0 < size)
    (A : Option Addr) (c : Nat) (hs : a.eval s = .slice A n c) (hown : w.ownsRow base e size (.slice A n c) n xs) (us : List Value) (hus : us.length = size)
    (hx : a.eval x = .slice (some ⟨w.heap.size, 0, none⟩) 1 1) (h1 : ∀ u ∈ us, u.oneCell' = true) (hn : n ≤ 1000000000) (hbytes : bytes ≤ 1000) (hbase : base ≤ w.heap.size)
    (h : ∀ A' c' w', w'.ownsRow base e size (.slice A' (n + 1) c') (n + 1) (xs ++ us) → w.grownBy w' (Value.slice A n c).ownBlock → (A'.map (·.block) = A.map (·.block) ∨ A'.map (·.block) = some (w.heap.size + 1)) → wpList P ops Q rest (a.put o.dst (.slice A' (n + 1) c')) w') :
    wpList P ops Q (o :: rest) a (w.alloc (.cells us.toArray e)) := by
  have hb : (n + 1) * bytes ≤ 1000000001 * 1000 := Nat.mul_le_mul (by omega) hbytes
  refine wpList_append_own_at _ hgd s x t ho base e i z size bytes ht hi hz hsize hby hzs hsz _ _ _ hs (hown.alloc _) ⟨w.heap.size, 0, none⟩ 1 1 us hx (by simpa using hus) (by
    intro j u hj
    rw [Addr.add_lit, Nat.zero_add, World.cell?_alloc_at _ _ _ _ rfl]
    simpa using hj) h1 (by unfold maxLen; omega) (by omega) (by simp; omega) ?_
  intro v' w' hown' hg' _ hat
  obtain ⟨A', c', rfl⟩ := own_form hown'
  refine h A' c' w' hown' (grown_trans (World.grownBy_alloc w _ _) hg') ?_
  have e1 : ∀ (A : Option Addr) (n c : Nat), (Value.slice A n c).ownBlock = A.map (·.block) := by
    intro A n c; cases A <;> rfl
  rw [e1, e1] at hat
  simpa using hat

/-- Rows of rows while they are put together. -/
def Built (wr : World) (base : Nat) (H : Option Addr) (c : Nat) (hs : List Value) (rs : List (List Int)) : Prop :=
  wr.ownsRow base 23 1 (.slice H rs.length c) rs.length hs ∧ GridAt wr (base + 1) wr.heap.size hs rs ∧ GridApart (H.map (·.block)) hs rs

theorem grown_of_below {w w' : World} (h : Below w.heap.size w w') : w.grownBy w' none := ⟨h.os, h.tape, h.output, h.size, fun i hi _ => h.block i hi⟩
theorem Built.keep {w w' : World} {base : Nat} {H : Option Addr} {c : Nat} {hs : List Value} {rs : List (List Int)} (h : Built w base H c hs rs) (hb : Below w.heap.size w w') : Built w' base H c hs rs := by
  obtain ⟨h1, h2, h3⟩ := h
  refine ⟨h1.kept (row := none) (grown_of_below hb) ?_, (h2.below hb).more hb.size, h3⟩
  by_cases hn : (Value.slice H rs.length c).ownBlock = none
  · exact .inl hn
  · exact .inr hn
theorem Built.mgrid {w : World} {base : Nat} {H : Option Addr} {c : Nat} {hs : List Value} {rs : List (List Int)} (h : Built w base H c hs rs) : MGrid w base w.heap.size H rs := by
  obtain ⟨h1, h2, h3⟩ := h
  obtain ⟨A, c', hv, _, ho⟩ := own_of_row h1
  simp only [Value.slice.injEq] at hv
  obtain ⟨rfl, _, _⟩ := hv
  exact ⟨hs, ho, h2, h3⟩
theorem Built.cap {w : World} {base : Nat} {H : Option Addr} {c : Nat} {hs : List Value} {rs : List (List Int)} (h : Built w base H c hs rs) : rs.length ≤ c := own_cap h.1

theorem slice_block (A : Option Addr) (n c : Nat) : (Value.slice A n c).ownBlock = A.map (·.block) := by cases A <;> rfl

theorem Built.first {w : World} {base : Nat} {R : Option Addr} {cR : Nat} {r : List Int} (hR : OwnInts w base w.heap.size R r) (hc : r.length ≤ cR) (hb : base ≤ w.heap.size) :
    Built (w.alloc (.cells #[.slice R r.length cR] 23)) base (some ⟨w.heap.size, 0, none⟩) 1 [.slice R r.length cR] [r] := by
  refine ⟨World.ownsRow_lit w #[.slice R r.length cR] 1 hb (by simp [maxLen]) rfl, ⟨rfl, fun i hi => ?_⟩, ⟨fun i j hi hj A B c d hij => ?_, fun i hi A c hne hA => ?_⟩⟩
  · simp only [List.length_cons, List.length_nil, Nat.zero_add, Nat.lt_one_iff] at hi
    subst hi
    exact ⟨R, cR, rfl, hc, (hR.below ((Below.refl _ _).alloc (Nat.le_refl _) _)).more (by simp)⟩
  · simp only [List.length_cons, List.length_nil, Nat.zero_add, Nat.lt_one_iff] at hi hj
    omega
  · simp only [List.length_cons, List.length_nil, Nat.zero_add, Nat.lt_one_iff] at hi
    subst hi
    simp at hA
    obtain ⟨rfl, _⟩ := hA
    obtain ⟨b, o, rfl, hb2, _⟩ := hR.open (by simp; exact List.length_pos_iff.2 (by simpa using hne))
    simp
    omega

theorem Built.push {w1 w2 w3 : World} {base : Nat} {H H' R : Option Addr} {c c' cR : Nat} {hs : List Value} {rs : List (List Int)} {r : List Int}
    (h : Built w1 base H c hs rs) (hbase : base ≤ w1.heap.size) (hb : Below w1.heap.size w1 w2) (hR : OwnInts w2 w1.heap.size w2.heap.size R r) (hc : r.length ≤ cR)
    (hown : w3.ownsRow base 23 1 (.slice H' (rs.length + 1) c') (rs.length + 1) (hs ++ [.slice R r.length cR])) (hg : w2.grownBy w3 (Value.slice H rs.length c).ownBlock)
    (hl : H'.map (·.block) = H.map (·.block) ∨ H'.map (·.block) = some (w2.heap.size + 1)) : Built w3 base H' c' (hs ++ [.slice R r.length cR]) (rs ++ [r]) := by
  obtain ⟨h1, h2, h3⟩ := h
  have hHlt : ∀ i, H.map (·.block) = some i → i < w1.heap.size := fun i hi => (h1.lt i (by rw [slice_block]; exact hi)).2
  rw [slice_block] at hg
  have hold : ∀ (i : Nat) (hi : i < rs.length) (A : Option Addr) (cA : Nat), rs[i] ≠ [] → hs[i]? = some (.slice A rs[i].length cA) → ∃ b o, A = some ⟨b, o, none⟩ ∧ b < w1.heap.size := by
    intro i hi A cA hne hA
    obtain ⟨A', c2, g1, _, g3⟩ := h2.2 i hi
    rw [g1] at hA
    simp only [Option.some.injEq, Value.slice.injEq] at hA
    obtain ⟨rfl, _, _⟩ := hA
    obtain ⟨b, o, hA2, hlt, _⟩ := g3.open (by simp; exact List.length_pos_iff.2 hne)
    exact ⟨b, o, hA2, hlt⟩
  have hnew : r ≠ [] → ∃ b o, R = some ⟨b, o, none⟩ ∧ w1.heap.size ≤ b ∧ b < w2.heap.size := by
    intro hne
    obtain ⟨b, o, hA2, h0, hlt, _⟩ := hR.open' (by omega) (by simp; exact List.length_pos_iff.2 hne)
    exact ⟨b, o, hA2, by omega, hlt⟩
  have hget : ∀ (i : Nat) (hi : i < rs.length), (rs ++ [r])[i]'(by simp; omega) = rs[i] := fun i hi => List.getElem_append_left hi
  have hgetn : (rs ++ [r])[rs.length]'(by simp) = r := by simp
  have hsl : hs.length = rs.length := h2.1
  refine ⟨by simpa using hown, ⟨by simp [hsl], fun i hi => ?_⟩, ?_, ?_⟩
  · simp only [List.length_append, List.length_cons, List.length_nil] at hi
    by_cases hir : i < rs.length
    · obtain ⟨A, c2, g1, g2, g3⟩ := h2.2 i hir
      rw [hget i hir]
      refine ⟨A, c2, by rw [List.getElem?_append_left (by omega)]; exact g1, g2, ?_⟩
      have g4 := g3.below hb
      by_cases hne : rs[i] = []
      · exact .inl (by rw [hne]; rfl)
      · obtain ⟨b, o, rfl, hblt⟩ := hold i hir A c2 hne g1
        have hap := h3.2 i hir _ c2 hne g1
        have hb2 := hb.size
        rcases g4 with g4 | ⟨b', o', hA, k0, klt, kc, kf⟩
        · exact .inl g4
        · simp only [Option.some.injEq, Addr.mk.injEq, and_true] at hA
          obtain ⟨rfl, rfl⟩ := hA
          have hbl := hg.block b (by omega) (fun e => hap e.symm.symm)
          exact .inr ⟨b, o, rfl, k0, by have := hg.size; omega, fun j u hu => (World.cell?_of_block (a := ⟨b, o + j, none⟩) hbl).trans (kc j u hu), fun h j => (World.frozen?_of_block (a := ⟨b, j, none⟩) hbl).trans (kf h j)⟩
    · have hie : i = rs.length := by omega
      subst hie
      rw [hgetn]
      refine ⟨R, cR, by rw [List.getElem?_append_right (by omega), hsl]; simp, hc, ?_⟩
      exact ((hR.apart (Nat.le_refl _) hg (fun i hi => hHlt i hi)).more hg.size).less (by omega)
  · intro i j hi hj A B cA cB hij hne1 hne2 hA hB
    simp only [List.length_append, List.length_cons, List.length_nil] at hi hj
    by_cases hir : i < rs.length
    · rw [hget i hir] at hne1 hA
      rw [List.getElem?_append_left (by omega)] at hA
      by_cases hjr : j < rs.length
      · rw [hget j hjr] at hne2 hB
        rw [List.getElem?_append_left (by omega)] at hB
        exact h3.1 i j hir hjr A B cA cB hij hne1 hne2 hA hB
      · have hje : j = rs.length := by omega
        subst hje
        rw [hgetn] at hne2 hB
        rw [List.getElem?_append_right (by omega), hsl] at hB
        simp at hB
        obtain ⟨rfl, _⟩ := hB
        obtain ⟨b, o, rfl, hb1⟩ := hold i hir A cA hne1 hA
        obtain ⟨b', o', rfl, hb2, _⟩ := hnew hne2
        simp; omega
    · have hie : i = rs.length := by omega
      subst hie
      have hjr : j < rs.length := by omega
      rw [hgetn] at hne1 hA
      rw [List.getElem?_append_right (by omega), hsl] at hA
      simp at hA
      obtain ⟨rfl, _⟩ := hA
      rw [hget j hjr] at hne2 hB
      rw [List.getElem?_append_left (by omega)] at hB
      obtain ⟨b, o, rfl, hb1⟩ := hold j hjr B cB hne2 hB
      obtain ⟨b', o', rfl, hb2, _⟩ := hnew hne1
      simp; omega
  · intro i hi A cA hne hA
    simp only [List.length_append, List.length_cons, List.length_nil] at hi
    have hb2 := hb.size
    by_cases hir : i < rs.length
    · rw [hget i hir] at hne hA
      rw [List.getElem?_append_left (by omega)] at hA
      rcases hl with hl | hl
      · rw [hl]; exact h3.2 i hir A cA hne hA
      · obtain ⟨b, o, rfl, hb1⟩ := hold i hir A cA hne hA
        rw [hl]; simp; omega
    · have hie : i = rs.length := by omega
      subst hie
      rw [hgetn] at hne hA
      rw [List.getElem?_append_right (by omega), hsl] at hA
      simp at hA
      obtain ⟨rfl, _⟩ := hA
      obtain ⟨b, o, rfl, hb1, hb3⟩ := hnew hne
      rcases hl with hl | hl
      · intro e
        rw [hl] at e
        have := hHlt b (by rw [← e]; rfl)
        omega
      · rw [hl]; simp; omega
end Go.Proofs.Ytempfagjbpnlcaa
