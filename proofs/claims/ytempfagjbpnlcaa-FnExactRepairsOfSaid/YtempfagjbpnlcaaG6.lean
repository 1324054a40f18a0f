/- Rows of rows of the call's own: steps beside a reader; a head put in. No condition. -/
import Derived.Test.YtempfagjbpnlcaaG5
namespace Go.Proofs.Ytempfagjbpnlcaa
open Go.RowKit

section
variable {w w0 w' : World} {base B : Nat} {rs : List (List Int)}
theorem Built.apart {H : Option Addr} {c : Nat} {hs : List Value} {row : Option Nat} (h : Built w base H c hs rs) (hg : w.grownBy w' row) (hr : ∀ i, row = some i → i < base) : Built w' base H c hs rs := by
  obtain ⟨h1, h2, h3⟩ := h
  refine ⟨h1.kept hg ?_, (h2.apart (Nat.le_refl _) hg hr).more hg.size, h3⟩
  by_cases hn : (Value.slice H rs.length c).ownBlock = none
  · exact .inl hn
  · refine .inr (fun e => ?_)
    cases hb : (Value.slice H rs.length c).ownBlock with
    | none => exact hn hb
    | some b =>
      have h5 := (h1.lt b hb).1
      have h6 := hr b (by rw [← e, hb])
      omega
theorem Built.start (w : World) (base : Nat) (hb : base ≤ w.heap.size) : Built (w.alloc (.cells #[] 23)) base (some ⟨w.heap.size, 0, none⟩) 0 [] [] :=
  ⟨World.ownsRow_lit w #[] 0 hb (by simp [maxLen]) rfl, ⟨rfl, fun i hi => by simp at hi⟩, ⟨fun i j hi => by simp at hi, fun i hi => by simp at hi⟩⟩

/-- A row of the call's own, made since, put in at place k. -/
theorem MGrid.setHead {g o : Nat} (h : MGrid w0 base B (some ⟨g, o, none⟩) rs) (hB : B ≤ w0.heap.size) (hb : Below w0.heap.size w0 w) {R : Option Addr} {c k : Nat} {r : List Int} (hR : OwnInts w w0.heap.size w.heap.size R r) (hc : r.length ≤ c) (hk : k < rs.length) (hbase : base ≤ w0.heap.size) :
    MGrid (w.setCell ⟨g, o + k, none⟩ (.slice R r.length c)) base w.heap.size (some ⟨g, o, none⟩) (rs.set k r) := by
  obtain ⟨hs, hh, hgr, hap⟩ := h
  have hsl : hs.length = rs.length := hgr.1
  have hz := hb.size
  obtain ⟨hg0, hgb⟩ : g < w0.heap.size ∧ base ≤ g := by
    obtain ⟨b', o', e, h0, hlt, _⟩ := hh.open' (by omega) (by omega)
    simp only [Option.some.injEq, Addr.mk.injEq, and_true] at e
    omega
  simp only [Option.map_some] at hap
  have hold : ∀ (i : Nat) (hi : i < rs.length) (A : Option Addr) (cA : Nat), rs[i] ≠ [] → hs[i]? = some (.slice A rs[i].length cA) → ∃ b o, A = some ⟨b, o, none⟩ ∧ b < w0.heap.size := by
    intro i hi A cA hne hA
    obtain ⟨A', c2, g1, _, g3⟩ := hgr.2 i hi
    rw [g1] at hA
    simp only [Option.some.injEq, Value.slice.injEq] at hA
    obtain ⟨rfl, _, _⟩ := hA
    obtain ⟨b, o, hA2, hlt, _⟩ := g3.open (by simp; exact List.length_pos_iff.2 hne)
    exact ⟨b, o, hA2, by omega⟩
  have hnew : r ≠ [] → ∃ b o, R = some ⟨b, o, none⟩ ∧ w0.heap.size ≤ b ∧ b < w.heap.size := by
    intro hne
    obtain ⟨b, o, hA2, h0, hlt, _⟩ := hR.open' (by omega) (by simp; exact List.length_pos_iff.2 hne)
    exact ⟨b, o, hA2, by omega, hlt⟩
  have hother : ∀ (B : Nat) (A : Option Addr) (xs : List Value), Own w (base + 1) B A xs → (xs ≠ [] → ∀ b o, A = some ⟨b, o, none⟩ → b ≠ g) → Own (w.setCell ⟨g, o + k, none⟩ (.slice R r.length c)) (base + 1) B A xs := by
    intro B A xs ho hne
    rcases ho with ho | ⟨b, o2, rfl, h0, hlt, hcc, hf⟩
    · exact .inl ho
    · by_cases hx : xs = []
      · exact .inl hx
      · have hbg := hne hx b o2 rfl
        have hblk : (w.setCell ⟨g, o + k, none⟩ (.slice R r.length c)).heap[b]? = w.heap[b]? := Below.heap_setCell _ _ _ _ (fun e => hbg e)
        exact .inr ⟨b, o2, rfl, h0, hlt, fun j u hu => (World.cell?_of_block (a := ⟨b, o2 + j, none⟩) hblk).trans (hcc j u hu), fun h j => (World.frozen?_of_block (a := ⟨b, j, none⟩) hblk).trans (hf h j)⟩
  refine ⟨hs.set k (.slice R r.length c), ((hh.below (hb.mono hB)).more (by omega)).set k _, ⟨by simp [hsl], fun i hi => ?_⟩, ?_, ?_⟩
  · simp only [List.length_set] at hi
    by_cases hik : k = i
    · subst hik
      refine ⟨R, c, by rw [List.getElem?_set_self (by omega), List.getElem_set_self], by rw [List.getElem_set_self]; exact hc, ?_⟩
      rw [List.getElem_set_self]
      refine hother _ _ _ (hR.less (by omega)) (fun hx b o hR' => ?_)
      obtain ⟨b', o', h1, h2, _⟩ := hnew (by intro e; exact hx (by rw [e]; rfl))
      rw [h1] at hR'
      simp at hR'
      omega
    · obtain ⟨A, cA, g1, g2, g3⟩ := hgr.2 i hi
      rw [List.getElem_set_ne hik]
      refine ⟨A, cA, by rw [List.getElem?_set_ne hik]; exact g1, g2, ?_⟩
      refine hother _ _ _ ((g3.below (hb.mono hB)).more (by omega)) (fun hx b o hA => ?_)
      have := hap.2 i hi A cA (by intro e; exact hx (by rw [e]; rfl)) g1
      rw [hA] at this
      simpa using this
  · intro i j hi hj A B cA cB hij hne1 hne2 hA hB
    simp only [List.length_set] at hi hj
    by_cases hik : k = i
    · subst hik
      rw [List.getElem_set_self] at hne1 hA
      rw [List.getElem?_set_self (by omega)] at hA
      rw [List.getElem_set_ne hij] at hne2 hB
      rw [List.getElem?_set_ne hij] at hB
      simp only [Option.some.injEq, Value.slice.injEq] at hA
      obtain ⟨rfl, _, _⟩ := hA
      obtain ⟨b, o, rfl, h1, _⟩ := hnew hne1
      obtain ⟨b', o', rfl, h2⟩ := hold j hj B cB hne2 hB
      simp; omega
    · rw [List.getElem_set_ne hik] at hne1 hA
      rw [List.getElem?_set_ne hik] at hA
      by_cases hjk : k = j
      · subst hjk
        rw [List.getElem_set_self] at hne2 hB
        rw [List.getElem?_set_self (by omega)] at hB
        simp only [Option.some.injEq, Value.slice.injEq] at hB
        obtain ⟨rfl, _, _⟩ := hB
        obtain ⟨b, o, rfl, h1, _⟩ := hnew hne2
        obtain ⟨b', o', rfl, h2⟩ := hold i hi A cA hne1 hA
        simp; omega
      · rw [List.getElem_set_ne hjk] at hne2 hB
        rw [List.getElem?_set_ne hjk] at hB
        exact hap.1 i j hi hj A B cA cB hij hne1 hne2 hA hB
  · intro i hi A cA hne hA
    simp only [List.length_set] at hi
    simp only [Option.map_some]
    by_cases hik : k = i
    · subst hik
      rw [List.getElem_set_self] at hne hA
      rw [List.getElem?_set_self (by omega)] at hA
      simp only [Option.some.injEq, Value.slice.injEq] at hA
      obtain ⟨rfl, _, _⟩ := hA
      obtain ⟨b, o, rfl, h1, _⟩ := hnew hne
      simp; omega
    · rw [List.getElem_set_ne hik] at hne hA
      rw [List.getElem?_set_ne hik] at hA
      exact hap.2 i hi A cA hne hA
theorem MGrid.apart {A : Option Addr} {row : Option Nat} (h : MGrid w base B A rs) (hB : B ≤ w.heap.size) (hg : w.grownBy w' row) (hr : ∀ i, row = some i → i < base) : MGrid w' base B A rs := by
  obtain ⟨hs, h1, h2, h3⟩ := h
  exact ⟨hs, h1.apart hB hg hr, h2.apart hB hg hr, h3⟩
end

/-- 'append(out, x)' of the law before, the cell's place named. -/
theorem wpList_push_in {P : Program} {w : World} {base : Nat} {e : TypeId} {size : Nat} {n : Nat} {xs : List Value} {ops : Array Oper} {rest : List Oper} {o : Oper} {a : Act} {Q : Exit → Act → World → Prop} (hgd : o.guard = none) (s x : Operand) (t : TypeId)
    (ho : o.op = .call { callee := .builtin .append, args := #[s, x], argTypes := #[t, t] })
    (i : TypeInfo) (z : Value) (bytes : Nat) (ht : P.underlying t = some (.slice e)) (hi : P.info? e = some i) (hz : i.zero = some z)
    (hsize : i.size = size) (hby : i.bytes = bytes) (hzs : z.cells.size = size) (hsz : 0 < size)
    (A : Option Addr) (c : Nat) (hs : a.eval s = .slice A n c) (hown : w.ownsRow base e size (.slice A n c) n xs) (us : List Value) (hus : us.length = size) (ad : Nat) (had : ad = w.heap.size)
    (hx : a.eval x = .slice (some ⟨ad, 0, none⟩) 1 1) (h1 : ∀ u ∈ us, u.oneCell' = true) (hn : n ≤ 1000000000) (hbytes : bytes ≤ 1000) (hbase : base ≤ w.heap.size)
    (h : ∀ A' c' w', w'.ownsRow base e size (.slice A' (n + 1) c') (n + 1) (xs ++ us) → w.grownBy w' (Value.slice A n c).ownBlock → (A'.map (·.block) = A.map (·.block) ∨ A'.map (·.block) = some (w.heap.size + 1)) → wpList P ops Q rest (a.put o.dst (.slice A' (n + 1) c')) w') :
    wpList P ops Q (o :: rest) a (w.alloc (.cells us.toArray e)) := by
  subst had
  exact wpList_push_at hgd s x t ho i z bytes ht hi hz hsize hby hzs hsz A c hs hown us hus hx h1 hn hbytes hbase h
theorem MGrid.cell {w : World} {base B g o : Nat} {rs : List (List Int)} (h : MGrid w base B (some ⟨g, o, none⟩) rs) {k : Nat} (hk : k < rs.length) : (∃ y, w.cell? ⟨g, o + k, none⟩ = some y) ∧ w.frozen? ⟨g, o + k, none⟩ = false := by
  obtain ⟨hs, h1, h2, _⟩ := h
  obtain ⟨R, c, h3, _⟩ := h2.2 k hk
  obtain ⟨b', o', e, _, _, hc, hf⟩ := h1.open' (by omega) (by rw [h2.1]; omega)
  simp only [Option.some.injEq, Addr.mk.injEq, and_true] at e
  obtain ⟨rfl, rfl⟩ := e
  exact ⟨⟨_, hc k _ h3⟩, hf _⟩
theorem own_of_rowS {w : World} {base : Nat} {e : TypeId} {n c s : Nat} {A : Option Addr} {xs : List Value} (_hs : 0 < s) (h : w.ownsRow base e s (.slice A n c) n xs) : Own w (base + 1) w.heap.size A xs := by
  have hlt := h.lt
  obtain ⟨hlen, hx⟩ := h
  rcases hx with ⟨hv, hn⟩ | ⟨g, cap, cur, hv, hg, hh, hnc, _, hcs, htake⟩
  · exact .inl (List.eq_nil_of_length_eq_zero (by rw [hlen, hn, Nat.zero_mul]))
  · simp only [Value.slice.injEq] at hv
    obtain ⟨rfl, _, rfl⟩ := hv
    refine .inr ⟨g, 0, rfl, by omega, (hlt g rfl).2, fun j u hu => ?_, fun _ j => ?_⟩
    · rw [cell_of_row w g (0 + j) cur e (0, 0) hh]
      rw [← htake] at hu
      have : j < n * s := by
        have := (List.getElem?_eq_some_iff.1 hu).1
        simp only [List.length_take] at this
        omega
      rw [List.getElem?_take, if_pos this] at hu
      simpa using hu
    · exact frozen_of_row w g j cur e hh
theorem g_wide {a b : World} (h : a.grownBy b none) (row : Option Nat) : a.grownBy b row := ⟨h.os, h.tape, h.output, h.size, fun i hi _ => h.block i hi (by simp)⟩
end Go.Proofs.Ytempfagjbpnlcaa
