/- One more row behind rows whose first is cut away. No condition. -/
import Derived.Test.YtonnffilcmlodaaV7
namespace Go.Proofs.Ytonnffilcmlodaa
open Go.RowKit

theorem run_append_cut {P : Program} (w : World) (base : Nat) (t ty e : TypeId) (i : TypeInfo) (z : Value) (bytes : Nat) (ht : P.underlying t = some (.slice e)) (hi : P.info? e = some i) (hz : i.zero = some z)
    (hsize : i.size = 1) (hby : i.bytes = bytes) (hzs : z.cells.size = 1) (g o n c cap : Nat) (xs : List Value) (hown : w.ownsRow base e 1 (.slice (some ⟨g, 0, none⟩) (n + 1) cap) (n + 1) xs) (hoc : (o = 1 ∧ cap = c + 1) ∨ (n = 0 ∧ c = 0))
    (a : Addr) (u : Value) (hu : w.cell? (a.add 0) = some u) (h1 : u.oneCell' = true) (hn : n ≤ 1000000) (hb : bytes ≤ 1000) :
    ∃ A' c' w', (Builtin.append_ #[t, t] ty #[.slice (some ⟨g, o, none⟩) n c, .slice (some a) 1 1]).run P w = .ok (.slice A' (n + 1) c') w' ∧ n + 1 ≤ c' ∧ Own w' 0 w'.heap.size A' (xs.drop 1 ++ [u]) ∧ w.grownBy w' (some g) := by
  have hcells := hown.cells (g := g) rfl
  obtain ⟨hlen, hv⟩ := hown
  have hnews : ∀ j v, [u][j]? = some v → w.cell? (a.add j) = some v := by
    intro j v hj
    cases j with
    | zero => simp at hj; rw [← hj]; exact hu
    | succ j => simp at hj
  rcases hv with ⟨h, _⟩ | ⟨g', cap', cur, hv, hbg, hg, hnc, hcm, hcs, htake⟩
  · simp at h
  · simp only [Value.slice.injEq, Option.some.injEq, Addr.mk.injEq, and_true, true_and] at hv
    obtain ⟨rfl, rfl⟩ := hv
    have hl1 : [u].length = 1 * i.size := by simp [hsize]
    by_cases hroom : n + 1 ≤ c
    · obtain ⟨rfl, rfl⟩ : o = 1 ∧ cap = c + 1 := by omega
      have hf := run_firstCells_some (P := P) w i.size 1 a 1 1 [u] hl1 hnews
      have hst := run_storeCells_at P g (1 + n * i.size) e [u] 0 cur w hg (by rw [hsize, hcs]; simp; omega) (by simpa using h1)
      simp only [Nat.add_zero] at hst
      refine ⟨some ⟨g, 1, none⟩, c, w.setRow g (cur.toList.take (1 + n * i.size) ++ [u] ++ cur.toList.drop (1 + n * i.size + [u].length)).toArray, ?_, hroom, ?_, ⟨rfl, rfl, rfl, by simp, fun k _ hk => setRow_other w g k _ (fun e => hk (by rw [e]))⟩⟩
      · simp [Builtin.append_, run_underlying ht, sizeOf, typeInfo, hi, Builtin.lenOf, hroom, hf, Addr.add_lit, hst]
      · have hr : (w.setRow g (cur.toList.take (1 + n * i.size) ++ [u] ++ cur.toList.drop (1 + n * i.size + [u].length)).toArray).ownsRow base e 1 (.slice (some ⟨g, 0, none⟩) (n + 2) (c + 1)) (n + 2) (xs ++ [u]) := by
          refine ⟨by simp [hlen], .inr ⟨g, c + 1, _, rfl, hbg, setRow_heap w g cur _ e _ hg, by omega, hcm, ?_, ?_⟩⟩
          · simp only [List.size_toArray, List.length_append, List.length_take, List.length_drop, Array.length_toList, hsize, hcs, List.length_cons, List.length_nil]
            omega
          · have e1 : 1 + n * i.size = (n + 1) * 1 := by rw [hsize]; omega
            rw [e1, htake]
            have e2 : (n + 2) * 1 = (xs ++ [u]).length := by rw [List.length_append, hlen]; simp
            rw [e2]
            exact List.take_left
        have ho := (own_of_rowS (by decide) hr).row.drop 1
        rw [List.drop_append_of_le_length (by rw [hlen]; omega), Nat.zero_add] at ho
        exact ho
    · have hdl : (xs.drop 1).length = n * i.size := by rw [List.length_drop, hlen, hsize]; omega
      have holds : ∀ j v, (xs.drop 1)[j]? = some v → w.cell? ((⟨g, o, none⟩ : Addr).add j) = some v := by
        intro j v hj
        rcases hoc with ⟨rfl, _⟩ | ⟨h0, _⟩
        case inr => rw [List.getElem?_eq_none (by rw [hdl, hsize]; omega)] at hj; cases hj
        rw [List.getElem?_drop] at hj
        have := hcells (1 + j) v hj
        rw [Addr.add_lit] at this ⊢
        rwa [Nat.zero_add] at this
      have hbb : (n + 1) * i.bytes ≤ 1000001 * 1000 := Nat.mul_le_mul (by omega) (by omega)
      have hr := run_append_grow (P := P) (ty := ty) w t e i z ht hi hz ⟨g, o, none⟩ n c (xs.drop 1) hdl holds a 1 1 [u] hl1 hnews (by omega) (by omega) (growslice_fits (by omega) (by omega))
      have hge := grownCap_ge w (n + 1) c e
      have hcm : grownCap w (n + 1) c e ≤ maxLen := grownCap_le_maxLen w (n + 1) c e (by unfold maxLen; omega)
      refine ⟨_, _, _, hr, hge, ?_, ⟨rfl, rfl, rfl, by simp, fun k hk _ => heap_alloc_old w.drew _ hk⟩⟩
      have ho : (w.drew.alloc (.cells ((xs.drop 1).toArray ++ [u].toArray ++ Builtin.zeroCells z.cells (grownCap w (n + 1) c e - (n + 1))) e)).ownsRow 0 e 1 (.slice (some ⟨w.heap.size, 0, none⟩) (n + 1) (grownCap w (n + 1) c e)) (n + 1) (xs.drop 1 ++ [u]) := by
        refine ⟨by simp [hlen], .inr ⟨w.heap.size, _, _, rfl, Nat.zero_le _, heap_alloc_new w.drew _, hge, hcm, ?_, ?_⟩⟩
        · simp only [Array.size_append, List.size_toArray, size_zeroCells, hzs, List.length_drop, hlen, List.length_cons, List.length_nil]
          omega
        · simp only [Array.toList_append, List.append_assoc]
          rw [← List.append_assoc]
          have e2 : (n + 1) * 1 = (xs.drop 1 ++ [u]).length := by rw [List.length_append, List.length_drop, hlen]; simp
          rw [e2]
          exact List.take_left
      exact (own_of_rowS (by decide) ho).row

theorem wpList_push_cut {P : Program} {w : World} {base : Nat} {e : TypeId} {ops : Array Oper} {rest : List Oper} {o : Oper} {a : Act} {Q : Exit → Act → World → Prop} (hgd : o.guard = none) (s x : Operand) (t : TypeId)
    (ho : o.op = .call { callee := .builtin .append, args := #[s, x], argTypes := #[t, t] })
    (i : TypeInfo) (z : Value) (bytes : Nat) (ht : P.underlying t = some (.slice e)) (hi : P.info? e = some i) (hz : i.zero = some z)
    (hsize : i.size = 1) (hby : i.bytes = bytes) (hzs : z.cells.size = 1) (g ofs n c cap : Nat) (xs : List Value) (hs : a.eval s = .slice (some ⟨g, ofs, none⟩) n c)
    (hown : w.ownsRow base e 1 (.slice (some ⟨g, 0, none⟩) (n + 1) cap) (n + 1) xs) (hoc : (ofs = 1 ∧ cap = c + 1) ∨ (n = 0 ∧ c = 0)) (u : Value) (ad : Nat) (had : ad = w.heap.size)
    (hx : a.eval x = .slice (some ⟨ad, 0, none⟩) 1 1) (h1 : u.oneCell' = true) (hn : n ≤ 1000000) (hb : bytes ≤ 1000)
    (h : ∀ A' c' w', n + 1 ≤ c' → Own w' 0 w'.heap.size A' (xs.drop 1 ++ [u]) → w.grownBy w' (some g) → wpList P ops Q rest (a.put o.dst (.slice A' (n + 1) c')) w') :
    wpList P ops Q (o :: rest) a (w.alloc (.cells #[u] e)) := by
  subst had
  obtain ⟨A', c', w', hr, h2, h3, h4⟩ := run_append_cut (P := P) (ty := o.type) (w.alloc (.cells #[u] e)) base t e i z bytes ht hi hz hsize hby hzs g ofs n c cap xs (hown.alloc _) hoc ⟨w.heap.size, 0, none⟩ u (by rw [Addr.add_lit, World.cell?_alloc_at _ _ _ _ rfl]; rfl) h1 hn hb
  refine wpList_plain hgd fun K hK => ?_
  unfold Oper.wp execOp
  simp only [ho, resolve, invoke, builtin, Sem.run_bind, Sem.run_pure, Result.andThen_ok, List.map_toArray, List.map_cons, List.map_nil, hs, hx, hr]
  exact hK _ _ (h A' c' w' h2 h3 (grown_trans (World.grownBy_alloc w _ _) h4))

theorem Built.cutPush {w1 w2 w3 : World} {base g c cR : Nat} {A' R : Option Addr} {hs : List Value} {rs : List (List Int)} {r0 r : List Int}
    (h : Built w1 base (some ⟨g, 0, none⟩) c hs (r0 :: rs)) (hb : Below w1.heap.size w1 w2) (hR : OwnInts w2 w1.heap.size w2.heap.size R r) (hc : r.length ≤ cR)
    (hown : Own w3 0 w3.heap.size A' (hs.drop 1 ++ [.slice R r.length cR])) (hg : w2.grownBy w3 (some g)) : Grid w3 0 w3.heap.size A' (rs ++ [r]) := by
  obtain ⟨h1, h2, h3⟩ := h
  have hgl : g < w1.heap.size := (h1.lt g (by rw [slice_block]; rfl)).2
  have hsl : hs.length = rs.length + 1 := h2.1
  have hb2 := hb.size
  refine ⟨_, hown, by simp [hsl], fun i hi => ?_⟩
  simp only [List.length_append, List.length_cons, List.length_nil] at hi
  by_cases hir : i < rs.length
  · obtain ⟨A, c2, g1, g2, g3⟩ := h2.2 (i + 1) (by simp; omega)
    have hget : (rs ++ [r])[i]'(by simp; omega) = rs[i] := List.getElem_append_left hir
    have hg0 : (r0 :: rs)[i + 1]'(by simp; omega) = rs[i] := rfl
    rw [hg0] at g1 g2 g3
    rw [hget]
    refine ⟨A, c2, by rw [List.getElem?_append_left (by rw [List.length_drop]; omega), List.getElem?_drop, Nat.add_comm]; exact g1, g2, ?_⟩
    have g4 := g3.below hb
    by_cases hne : rs[i] = []
    · exact .inl (by rw [hne]; rfl)
    · have hap := h3.2 (i + 1) (by simp; omega) A c2 (by rw [hg0]; exact hne) (by rw [hg0]; exact g1)
      exact (((g4.more hb2).grown (Nat.le_refl _) hg (fun b o e hbg => hap (by rw [e, ← hbg]; rfl))).more hg.size).less (by omega)
  · have hie : i = rs.length := by omega
    subst hie
    have hgetn : (rs ++ [r])[rs.length]'(by simp) = r := by simp
    rw [hgetn]
    refine ⟨R, cR, by rw [List.getElem?_append_right (by rw [List.length_drop]; omega), List.length_drop, hsl]; simp, hc, ?_⟩
    exact ((hR.apart (Nat.le_refl _) hg (fun i hi => by injection hi with hi; omega)).more hg.size).less (by omega)
theorem slice_tail1 (g : Nat) (W : World) : (Instr.slice 23 (.slice (some ⟨g, 0, none⟩) 1 1) (some (.int .i64 1)) none none).run Try.prog W = .ok (.slice (some ⟨g, 0, none⟩) 0 0) W := by
  go_simp
theorem slice_tail2 (g n c : Nat) (h : 1 ≤ n) (_hc : n ≤ c) (h2 : c ≠ 1) (W : World) : (Instr.slice 23 (.slice (some ⟨g, 0, none⟩) n c) (some (.int .i64 1)) none none).run Try.prog W = .ok (.slice (some ⟨g, 1, none⟩) (n - 1) (c - 1)) W := by
  have h2' : (1 : Int) ≤ (n : Int) := by omega
  go_simp
end Go.Proofs.Ytonnffilcmlodaa
