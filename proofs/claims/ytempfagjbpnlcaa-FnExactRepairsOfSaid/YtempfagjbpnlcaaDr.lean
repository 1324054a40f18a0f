/- Laws for appends in a statement whose order is open. No condition. -/
import Derived.Test.YtempfagjbpnlcaaOwn
import Derived.Test.YtempfagjbpnlcaaRows
import Derived.Maps.AppendAt
import Derived.Deep.RegionLaw
import Derived.Deep.RegionWith
namespace Go.Proofs.Ytempfagjbpnlcaa
open Go.RowKit

section
variable {w : World} {base : Nat} {e : TypeId} {size : Nat} {n : Nat} {xs : List Value}

theorem run_extend {P : Program} (t ty : TypeId) (i : TypeInfo) (z : Value) (bytes : Nat) (ht : P.underlying t = some (.slice e)) (hi : P.info? e = some i) (hz : i.zero = some z)
    (hsize : i.size = size) (hby : i.bytes = bytes) (hzs : z.cells.size = size) (hsz : 0 < size)
    (A : Option Addr) (c : Nat) (hown : w.ownsRow base e size (.slice A n c) n xs)
    (B : Option Addr) (m d BB : Nat) (us : List Value) (hus : us.length = m * size) (hsrc : Own w 0 BB B us) (h1 : ∀ u ∈ us, u.oneCell' = true)
    (hn : n + m ≤ 1000000000) (hbytes : bytes ≤ 1000) (hbase : base ≤ w.heap.size) :
    ∃ A' c' w', (Builtin.append_ #[t, t] ty #[.slice A n c, .slice B m d]).run P w = .ok (.slice A' (n + m) c') w' ∧ w'.ownsRow base e size (.slice A' (n + m) c') (n + m) (xs ++ us) ∧ w.grownBy w' (Value.slice A n c).ownBlock := by
  have hb : (n + m) * bytes ≤ 1000000000 * 1000 := Nat.mul_le_mul (by omega) hbytes
  cases B with
  | some ad =>
    obtain ⟨v', w', hr, h2, h3, _, h5⟩ := run_append_own_at (P := P) w base t ty e i z size bytes ht hi hz hsize hby hzs hsz _ n xs hown ad m d us hus (by
      intro j u hj
      rcases hsrc with rfl | ⟨b', o', hA, _, _, hc, _⟩
      · simp at hj
      · simp only [Option.some.injEq] at hA
        subst hA
        rw [Addr.add_lit]
        exact hc j u hj) h1 (by unfold maxLen; omega) (by omega) hbase
    obtain ⟨A', c', rfl⟩ := own_form h2
    exact ⟨A', c', w', hr, h2, h3⟩
  | none =>
    have hnil : us = [] := by
      rcases hsrc with h | ⟨_, _, hA, _⟩
      · exact h
      · cases hA
    subst hnil
    have hm : m = 0 := by
      rcases Nat.eq_zero_or_pos m with h | h
      · exact h
      · have := Nat.mul_pos h hsz
        simp at hus
        omega
    subst hm
    refine ⟨A, c, w, ?_, by simpa using hown, World.grownBy.refl w _⟩
    rcases hown.2 with ⟨hv, hn0⟩ | ⟨g, cap, cur, hv, _, _, hnc, _⟩
    · simp only [Value.slice.injEq] at hv
      obtain ⟨rfl, rfl, rfl⟩ := hv
      simp [Builtin.append_, run_underlying ht, sizeOf, typeInfo, hi, Builtin.lenOf, Builtin.firstCells]
    · simp only [Value.slice.injEq] at hv
      obtain ⟨rfl, _, rfl⟩ := hv
      simp [Builtin.append_, run_underlying ht, sizeOf, typeInfo, hi, Builtin.lenOf, Builtin.firstCells, hnc, storeCells]

/-- At a step of a region that draws its order. -/
theorem step_extend {P : Program} {ops : Array Oper} {o : Oper} {a : Act} {K : Act → World → Prop} {Q : Exit → Act → World → Prop} {E : Prop} (hgd : o.guard = none) (s x : Operand) (t : TypeId)
    (ho : o.op = .call { callee := .builtin .append, args := #[s, x], argTypes := #[t, t] })
    (i : TypeInfo) (z : Value) (bytes : Nat) (ht : P.underlying t = some (.slice e)) (hi : P.info? e = some i) (hz : i.zero = some z)
    (hsize : i.size = size) (hby : i.bytes = bytes) (hzs : z.cells.size = size) (hsz : 0 < size)
    (A : Option Addr) (c : Nat) (hs : a.eval s = .slice A n c) (hown : w.ownsRow base e size (.slice A n c) n xs)
    (B : Option Addr) (m d BB : Nat) (us : List Value) (hx : a.eval x = .slice B m d) (hus : us.length = m * size) (hsrc : Own w 0 BB B us) (h1 : ∀ u ∈ us, u.oneCell' = true)
    (hn : n + m ≤ 1000000000) (hbytes : bytes ≤ 1000) (hbase : base ≤ w.heap.size)
    (h : ∀ A' c' w', w'.ownsRow base e size (.slice A' (n + m) c') (n + m) (xs ++ us) → w.grownBy w' (Value.slice A n c).ownBlock → K (a.put o.dst (.slice A' (n + m) c')) w') :
    if Region.wanted o (yielded ops a.tmps) = true then Oper.wp P o a w K Q else E := by
  have hw : Region.wanted o (yielded ops a.tmps) = true := by simp [Region.wanted, hgd]
  rw [if_pos hw]
  obtain ⟨A', c', w', hr, h2, h3⟩ := run_extend (P := P) t o.type i z bytes ht hi hz hsize hby hzs hsz A c hown B m d BB us hus hsrc h1 hn hbytes hbase
  unfold Oper.wp execOp
  simp only [ho, resolve, invoke, builtin, Sem.run_bind, Sem.run_pure, Result.andThen_ok, List.map_toArray, List.map_cons, List.map_nil, hs, hx, hr]
  exact h A' c' w' h2 h3

theorem own_cap {A : Option Addr} {c : Nat} (h : w.ownsRow base e size (.slice A n c) n xs) : n ≤ c := by
  rcases h.2 with ⟨hv, hn0⟩ | ⟨g, cap, cur, hv, _, _, hnc, _⟩
  · omega
  · simp only [Value.slice.injEq] at hv
    obtain ⟨_, _, rfl⟩ := hv
    exact hnc
end

/-- What stands behind the first j of a row. -/
theorem Own.drop {w : World} {base B : Nat} {b o : Nat} {xs : List Value} (h : Own w base B (some ⟨b, o, none⟩) xs) (j : Nat) : Own w base B (some ⟨b, o + j, none⟩) (xs.drop j) := by
  rcases h with rfl | ⟨b', o', hA, h0, hlt, hc, hf⟩
  · exact .inl (by simp)
  · simp only [Option.some.injEq, Addr.mk.injEq, and_true] at hA
    obtain ⟨rfl, rfl⟩ := hA
    refine .inr ⟨b, o + j, rfl, h0, hlt, fun i u hu => ?_, hf⟩
    rw [List.getElem?_drop] at hu
    rw [Nat.add_assoc]
    exact hc _ u hu

theorem slice_upto (g n c j : Nat) (h : j ≤ n) (hc : n ≤ c) (W : World) :
    (Instr.slice 23 (.slice (some ⟨g, 0, none⟩) n c) none (some (.int .i64 (j : Int))) none).run Try.prog W = .ok (.slice (some ⟨g, 0, none⟩) j c) W := by
  have h1 : (0 : Int) ≤ (j : Int) := by omega
  have h2 : (j : Int) ≤ (c : Int) := by omega
  go_simp

theorem slice_from (g n c j : Nat) (h : j ≤ n) (hc : n ≤ c) :
    ∃ o, (∀ W, (Instr.slice 23 (.slice (some ⟨g, 0, none⟩) n c) (some (.int .i64 (j : Int))) none none).run Try.prog W = .ok (.slice (some ⟨g, o, none⟩) (n - j) (c - j)) W) ∧ (j < n → o = j) := by
  have h1 : (0 : Int) ≤ (j : Int) := by omega
  have h2 : (j : Int) ≤ (n : Int) := by omega
  by_cases e : j = c
  · refine ⟨0, fun W => ?_, fun hlt => by omega⟩
    have h3 : ¬ n < c := by omega
    subst e
    go_simp
  · refine ⟨j, fun W => ?_, fun _ => rfl⟩
    have h4 : ¬ c = j := fun h => e h.symm
    go_simp

/-! Steps that change nothing old. -/
theorem g_alloc {a b : World} {row : Option Nat} (h : a.grownBy b row) (o : Obj) : a.grownBy (b.alloc o) row := grown_trans h (World.grownBy_alloc b o row)
theorem g_drew {a b : World} {row : Option Nat} (h : a.grownBy b row) : a.grownBy b.drew row := ⟨h.os, h.tape, h.output, h.size, h.block⟩
theorem g_new {a b c : World} {row row' : Option Nat} (h : a.grownBy b row) (k : b.grownBy c row') (hr : ∀ i, row' = some i → a.heap.size ≤ i) : a.grownBy c row :=
  ⟨k.os.trans h.os, k.tape.trans h.tape, k.output.trans h.output, Nat.le_trans h.size k.size, fun i hi hne => (k.block i (Nat.lt_of_lt_of_le hi h.size) (fun e => by have := hr i e.symm; omega)).trans (h.block i hi hne)⟩
theorem Own.grownN {w w' : World} {base B : Nat} {A : Option Addr} {xs : List Value} (h : Own w base B A xs) (hB : B ≤ w.heap.size) (hg : w.grownBy w' none) : Own w' base B A xs :=
  h.below ⟨hg.os, hg.tape, hg.output, hg.size, fun i hi => hg.block i (by omega) (by simp)⟩
theorem own_new (w : World) (us : Array Value) (t : TypeId) : Own (w.alloc (.cells us t)) 0 (w.heap.size + 1) (some ⟨w.heap.size, 0, none⟩) us.toList := by
  refine .inr ⟨w.heap.size, 0, rfl, by omega, by omega, fun j u hu => ?_, fun h => by omega⟩
  rw [World.cell?_alloc_at _ _ _ _ rfl, Nat.zero_add]
  simpa using hu
theorem own_base {w : World} {base base' : Nat} {e : TypeId} {size n : Nat} {v : Value} {xs : List Value} (h : w.ownsRow base e size v n xs) (hb : base' ≤ base) : w.ownsRow base' e size v n xs := by
  obtain ⟨h1, h2⟩ := h
  rcases h2 with h2 | ⟨g, cap, cur, hv, hg, hr⟩
  · exact ⟨h1, .inl h2⟩
  · exact ⟨h1, .inr ⟨g, cap, cur, hv, by omega, hr⟩⟩
theorem below_g {w w' : World} {B : Nat} (hg : w.grownBy w' none) (hB : B ≤ w.heap.size) : Below B w w' :=
  ⟨hg.os, hg.tape, hg.output, hg.size, fun i hi => hg.block i (by omega) (by simp)⟩
theorem src_b (V : World) {w2 : World} (o : Obj) (us : Array Value) (t : TypeId) (h : ((V.alloc o).alloc (.cells us t)).grownBy w2 (some V.heap.size)) : Own w2 0 (V.heap.size + 1 + 1) (some ⟨V.heap.size + 1, 0, none⟩) us.toList := by
  have h1 := own_new (V.alloc o) us t
  simp only [World.size_alloc] at h1
  exact h1.grown (by simp) h (by intro b o e; simp at e; omega)
theorem src_c (V : World) {w2 : World} (o : Obj) (us : Array Value) (t : TypeId) (h : ((V.alloc (.cells us t)).alloc o).grownBy w2 (some (V.heap.size + 1))) : Own w2 0 (V.heap.size + 1) (some ⟨V.heap.size, 0, none⟩) us.toList := by
  have h1 := (own_new V us t).grownN (by simp) (World.grownBy_alloc _ o none)
  exact h1.grown (by simp) h (by intro b o e; simp at e; omega)
end Go.Proofs.Ytempfagjbpnlcaa
