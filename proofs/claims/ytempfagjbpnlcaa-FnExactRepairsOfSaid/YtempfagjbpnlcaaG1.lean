/- Rows of rows in memory. No condition. -/
import Derived.Test.YtempfagjbpnlcaaMark2
import Derived.Test.YtempfagjbpnlcaaEq
import Derived.Deep.QuietTactic
namespace Go.Proofs.Ytempfagjbpnlcaa
open Go.RowKit

/-- The heads hs are those of the rows rs; each row lies from base on, below B. -/
def GridAt (w : World) (base B : Nat) (hs : List Value) (rs : List (List Int)) : Prop :=
  hs.length = rs.length ∧ ∀ (i : Nat) (hi : i < rs.length), ∃ A c, hs[i]? = some (.slice A rs[i].length c) ∧ rs[i].length ≤ c ∧ Own w base B A (rs[i].map (Value.int .i64))
/-- No two rows share a block, and none lies in block g. -/
def GridApart (g : Option Nat) (hs : List Value) (rs : List (List Int)) : Prop :=
  (∀ (i j : Nat) (hi : i < rs.length) (hj : j < rs.length) (A B : Option Addr) (c d : Nat), i ≠ j → rs[i] ≠ [] → rs[j] ≠ [] → hs[i]? = some (.slice A rs[i].length c) → hs[j]? = some (.slice B rs[j].length d) → A.map (·.block) ≠ B.map (·.block)) ∧
  (∀ (i : Nat) (hi : i < rs.length) (A : Option Addr) (c : Nat), rs[i] ≠ [] → hs[i]? = some (.slice A rs[i].length c) → A.map (·.block) ≠ g)

/-- A slice of rows. -/
def Grid (w : World) (base B : Nat) (A : Option Addr) (rs : List (List Int)) : Prop := ∃ hs, Own w base B A hs ∧ GridAt w base B hs rs

section
variable {w w' : World} {base base' B B' : Nat} {A : Option Addr} {hs : List Value} {rs : List (List Int)}
theorem GridAt.below (h : GridAt w base B hs rs) (hb : Below B w w') : GridAt w' base B hs rs := ⟨h.1, fun i hi => by
  obtain ⟨A, c, h1, h2, h3⟩ := h.2 i hi
  exact ⟨A, c, h1, h2, h3.below hb⟩⟩
theorem GridAt.more (h : GridAt w base B hs rs) (hB : B ≤ B') : GridAt w base B' hs rs := ⟨h.1, fun i hi => by
  obtain ⟨A, c, h1, h2, h3⟩ := h.2 i hi
  exact ⟨A, c, h1, h2, h3.more hB⟩⟩
theorem GridAt.less (h : GridAt w base B hs rs) (hb : base' ≤ base) : GridAt w base' B hs rs := ⟨h.1, fun i hi => by
  obtain ⟨A, c, h1, h2, h3⟩ := h.2 i hi
  exact ⟨A, c, h1, h2, h3.less hb⟩⟩
theorem Grid.below (h : Grid w base B A rs) (hb : Below B w w') : Grid w' base B A rs := by
  obtain ⟨hs, h1, h2⟩ := h
  exact ⟨hs, h1.below hb, h2.below hb⟩
theorem Grid.more (h : Grid w base B A rs) (hB : B ≤ B') : Grid w base B' A rs := by
  obtain ⟨hs, h1, h2⟩ := h
  exact ⟨hs, h1.more hB, h2.more hB⟩
theorem Grid.less (h : Grid w base B A rs) (hb : base' ≤ base) : Grid w base' B A rs := by
  obtain ⟨hs, h1, h2⟩ := h
  exact ⟨hs, h1.less hb, h2.less hb⟩
theorem Grid.row (h : Grid w base B A rs) : Grid w 0 B A rs := h.less (Nat.zero_le _)
theorem Grid.past (h : Grid w base w.heap.size A rs) (hb : Below w.heap.size w w') : Grid w' base w'.heap.size A rs := (h.below hb).more hb.size
theorem Grid.keep (h : Grid w base B A rs) (hB : B ≤ w.heap.size) (hb : Below w.heap.size w w') : Grid w' base B A rs := h.below (hb.mono hB)
theorem Grid.nil (w : World) (base B : Nat) (A : Option Addr) : Grid w base B A [] := ⟨[], .inl rfl, rfl, fun i hi => by simp at hi⟩

/-- The head of row i, and the row. -/
theorem Grid.open (h : Grid w base B A rs) {i : Nat} (hi : i < rs.length) :
    ∃ b o R c, A = some ⟨b, o, none⟩ ∧ b < B ∧ w.cell? ⟨b, o + i, none⟩ = some (.slice R rs[i].length c) ∧ rs[i].length ≤ c ∧ Own w base B R (rs[i].map (Value.int .i64)) := by
  obtain ⟨hs, h1, h2⟩ := h
  obtain ⟨R, c, h3, h4, h5⟩ := h2.2 i hi
  obtain ⟨b, o, hA, hb, hc⟩ := h1.open (by rw [h2.1]; omega)
  exact ⟨b, o, R, c, hA, hb, hc i _ h3, h4, h5⟩

theorem GridAt.apart {row : Option Nat} (h : GridAt w (base + 1) B hs rs) (hB : B ≤ w.heap.size) (hg : w.grownBy w' row) (hr : ∀ i, row = some i → i < base) : GridAt w' (base + 1) B hs rs := ⟨h.1, fun i hi => by
  obtain ⟨A, c, h1, h2, h3⟩ := h.2 i hi
  exact ⟨A, c, h1, h2, h3.apart hB hg hr⟩⟩
theorem GridAt.elder {row : Option Nat} (h : GridAt w base B hs rs) (hB : B ≤ w.heap.size) (hg : w.grownBy w' row) (hr : ∀ i, row = some i → B ≤ i) : GridAt w' base B hs rs := ⟨h.1, fun i hi => by
  obtain ⟨A, c, h1, h2, h3⟩ := h.2 i hi
  exact ⟨A, c, h1, h2, h3.elder hB hg hr⟩⟩
theorem Wrote.gridApart {b0 B0 : Nat} (hw : Wrote b0 B0 w w') (h : Grid w (base + 1) B A rs) (hB : B ≤ w.heap.size) (hlt : B0 ≤ base) : Grid w' (base + 1) B A rs := by
  obtain ⟨row, hg, hr⟩ := hw
  obtain ⟨hs, h1, h2⟩ := h
  exact ⟨hs, h1.apart hB hg (fun i hi => by have := hr i hi; omega), h2.apart hB hg (fun i hi => by have := hr i hi; omega)⟩
theorem Wrote.gridElder {b0 B0 : Nat} (hw : Wrote b0 B0 w w') (h : Grid w base B A rs) (hB : B ≤ w.heap.size) (hlt : B ≤ b0) : Grid w' base B A rs := by
  obtain ⟨row, hg, hr⟩ := hw
  obtain ⟨hs, h1, h2⟩ := h
  exact ⟨hs, h1.elder hB hg (fun i hi => by have := hr i hi; omega), h2.elder hB hg (fun i hi => by have := hr i hi; omega)⟩
end

def eqG (xs ys : List (List Int)) : Bool := decide (xs = ys)
theorem eqG_self (xs : List (List Int)) : eqG xs xs = true := by simp [eqG]
theorem eqG_ne {xs ys : List (List Int)} {k : Nat} (h1 : k < xs.length) (h2 : k < ys.length) (h : xs[k] ≠ ys[k]) : eqG xs ys = false := by
  simp only [eqG, decide_eq_false_iff_not]
  rintro rfl
  exact h rfl
theorem eqG_of {xs ys : List (List Int)} (h : xs.length = ys.length) (h2 : xs.take xs.length = ys.take xs.length) : eqG xs ys = true := by
  rw [List.take_length, List.take_of_length_le (by omega)] at h2
  simp [eqG, h2]

def total (rs : List (List Int)) : Nat := (rs.map List.length).sum
/-- The marks of rows, one behind the other. -/
def markR : Int → List (List Int) → List (List Int)
  | _, [] => []
  | k, r :: rs => upFrom k r.length :: markR (k + r.length) rs
theorem markR_length (k : Int) (rs : List (List Int)) : (markR k rs).length = rs.length := by
  induction rs generalizing k with
  | nil => rfl
  | cons r rs ih => simp [markR, ih]
theorem markR_get (k : Int) (rs : List (List Int)) (i : Nat) (h : i < rs.length) : (markR k rs)[i]'(by rw [markR_length]; exact h) = upFrom (k + total (rs.take i)) rs[i].length := by
  induction rs generalizing k i with
  | nil => simp at h
  | cons r rs ih =>
    cases i with
    | zero => simp [markR, total]
    | succ i =>
      simp only [List.length_cons] at h
      simp only [markR, List.getElem_cons_succ, List.take_succ_cons, total, List.map_cons, List.sum_cons]
      rw [ih _ i (by omega)]
      congr 1
      simp only [total]
      push_cast
      omega
theorem total_take {rs : List (List Int)} {i : Nat} (h : i < rs.length) : total (rs.take (i + 1)) = total (rs.take i) + rs[i].length := by
  rw [List.take_succ_eq_append_getElem h]; simp only [total, List.map_append, List.sum_append, List.map_cons, List.map_nil, List.sum_cons, List.sum_nil]; omega
theorem total_take_le (rs : List (List Int)) (i : Nat) : total (rs.take i) ≤ total rs := by
  have h := congrArg total (List.take_append_drop i rs)
  simp only [total, List.map_append, List.sum_append] at h ⊢
  omega
theorem row_le_total {rs : List (List Int)} {i : Nat} (h : i < rs.length) : rs[i].length ≤ total rs := by
  have h1 := total_take h
  have h2 := total_take_le rs (i + 1)
  omega

/-- Rows of which the first i are marked. -/
def halfR (k : Int) (rs : List (List Int)) (i : Nat) : List (List Int) := (markR k rs).take i ++ rs.drop i
theorem halfR_length (k : Int) (rs : List (List Int)) (i : Nat) (h : i ≤ rs.length) : (halfR k rs i).length = rs.length := by
  simp [halfR, markR_length]; omega
theorem halfR_get (k : Int) (rs : List (List Int)) (i j : Nat) (hi : i ≤ rs.length) (hj : j < rs.length) :
    (halfR k rs i)[j]'(by rw [halfR_length k rs i hi]; exact hj) = if j < i then upFrom (k + total (rs.take j)) rs[j].length else rs[j] := by
  unfold halfR
  by_cases h : j < i
  · rw [if_pos h, List.getElem_append_left (by simp [markR_length]; omega), List.getElem_take, markR_get k rs j hj]
  · rw [if_neg h, List.getElem_append_right (by simp [markR_length]; omega), List.getElem_drop]
    congr 1
    simp [markR_length]; omega
theorem halfR_len (k : Int) (rs : List (List Int)) (i j : Nat) (hi : i ≤ rs.length) (hj : j < rs.length) : ((halfR k rs i)[j]'(by rw [halfR_length k rs i hi]; exact hj)).length = rs[j].length := by
  rw [halfR_get k rs i j hi hj]; split
  · rw [upFrom_length]
  · rfl
end Go.Proofs.Ytempfagjbpnlcaa
