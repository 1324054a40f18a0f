/- Rows of rows in memory. No condition. -/
import Derived.Test.YtonnffilcmlodaaMark2
import Derived.Test.YtonnffilcmlodaaEq
import Derived.Deep.QuietTactic
namespace Go.Proofs.Ytonnffilcmlodaa
open Go.RowKit

/-- The heads hs are those of the rows rs; each row lies from base on, below B. -/
def GridAt (w : World) (base B : Nat) (hs : List Value) (rs : List (List Int)) : Prop :=
  hs.length = rs.length ∧ ∀ (i : Nat) (hi : i < rs.length), ∃ A c, hs[i]? = some (.slice A rs[i].length c) ∧ rs[i].length ≤ c ∧ Own w base B A (rs[i].map (Value.int .i64))
/-- No two rows share a block, and none lies in block g. -/
def GridApart (g : Option Nat) (hs : List Value) (rs : List (List Int)) : Prop :=
  (∀ (i j : Nat) (hi : i < rs.length) (hj : j < rs.length) (A B : Option Addr) (c d : Nat), i ≠ j → rs[i] ≠ [] → rs[j] ≠ [] → hs[i]? = some (.slice A rs[i].length c) → hs[j]? = some (.slice B rs[j].length d) → A.map (·.block) ≠ B.map (·.block)) ∧
  (∀ (i : Nat) (hi : i < rs.length) (A : Option Addr) (c : Nat), rs[i] ≠ [] → hs[i]? = some (.slice A rs[i].length c) → A.map (·.block) ≠ g)

/-- A slice of rows. -/
def Grid (w : World) (base B : Nat) (A : Option Addr) (rs : List (List Int)) : Prop := ∃ hs, Own w base B A hs ∧ GridAt w base B hs rs

section
variable {w w' : World} {base base' B B' : Nat} {A : Option Addr} {hs : List Value} {rs : List (List Int)}
theorem GridAt.below (h : GridAt w base B hs rs) (hb : Below B w w') : GridAt w' base B hs rs := ⟨h.1, fun i hi => by
  obtain ⟨A, c, h1, h2, h3⟩ := h.2 i hi
  exact ⟨A, c, h1, h2, h3.below hb⟩⟩
theorem GridAt.more (h : GridAt w base B hs rs) (hB : B ≤ B') : GridAt w base B' hs rs := ⟨h.1, fun i hi => by
  obtain ⟨A, c, h1, h2, h3⟩ := h.2 i hi
  exact ⟨A, c, h1, h2, h3.more hB⟩⟩
theorem GridAt.less (h : GridAt w base B hs rs) (hb : base' ≤ base) : GridAt w base' B hs rs := ⟨h.1, fun i hi => by
  obtain ⟨A, c, h1, h2, h3⟩ := h.2 i hi
  exact ⟨A, c, h1, h2, h3.less hb⟩⟩
theorem Grid.below (h : Grid w base B A rs) (hb : Below B w w') : Grid w' base B A rs := by
  obtain ⟨hs, h1, h2⟩ := h
  exact ⟨hs, h1.below hb, h2.below hb⟩
theorem Grid.more (h : Grid w base B A rs) (hB : B ≤ B') : Grid w base B' A rs := by
  obtain ⟨hs, h1, h2⟩ := h
  exact ⟨hs, h1.more hB, h2.more hB⟩
theorem Grid.less (h : Grid w base B A rs) (hb : base' ≤ base) : Grid w base' B A rs := by
  obtain ⟨hs, h1, h2⟩ := h
  exact ⟨hs, h1.less hb, h2.less hb⟩
theorem Grid.row (h : Grid w base B A rs) : Grid w 0 B A rs := h.less (Nat.zero_le _)
theorem Grid.past (h : Grid w base w.heap.size A rs) (hb : Below w.heap.size w w') : Grid w' base w'.heap.size A rs := (h.below hb).more hb.size
theorem Grid.keep (h : Grid w base B A rs) (hB : B ≤ w.heap.size) (hb : Below w.heap.size w w') : Grid w' base B A rs := h.below (hb.mono hB)
theorem Grid.nil (w : World) (base B : Nat) (A : Option Addr) : Grid w base B A [] := ⟨[], .inl rfl, rfl, fun i hi => by simp at hi⟩

/-- The head of row i, and the row. -/
theorem Grid.open (h : Grid w base B A rs) {i : Nat} (hi : i < rs.length) :
    ∃ b o R c, A = some ⟨b, o, none⟩ ∧ b < B ∧ w.cell? ⟨b, o + i, none⟩ = some (.slice R rs[i].length c) ∧ rs[i].length ≤ c ∧ Own w base B R (rs[i].map (Value.int .i64)) := by
  obtain ⟨hs, h1, h2⟩ := h
  obtain ⟨R, c, h3, h4, h5⟩ := h2.2 i hi
  obtain ⟨b, o, hA, hb, hc⟩ := h1.open (by rw [h2.1]; omega)
  exact ⟨b, o, R, c, hA, hb, hc i _ h3, h4, h5⟩

theorem GridAt.apart {row : Option Nat} (h : GridAt w (base + 1) B hs rs) (hB : B ≤ w.heap.size) (hg : w.grownBy w' row) (hr : ∀ i, row = some i → i < base) : GridAt w' (base + 1) B hs rs := ⟨h.1, fun i hi => by
  obtain ⟨A, c, h1, h2, h3⟩ := h.2 i hi
  exact ⟨A, c, h1, h2, h3.apart hB hg hr⟩⟩
theorem GridAt.elder {row : Option Nat} (h : GridAt w base B hs rs) (hB : B ≤ w.heap.size) (hg : w.grownBy w' row) (hr : ∀ i, row = some i → B ≤ i) : GridAt w' base B hs rs := ⟨h.1, fun i hi => by
  obtain ⟨A, c, h1, h2, h3⟩ := h.2 i hi
  exact ⟨A, c, h1, h2, h3.elder hB hg hr⟩⟩
theorem Wrote.gridApart {b0 B0 : Nat} (hw : Wrote b0 B0 w w') (h : Grid w (base + 1) B A rs) (hB : B ≤ w.heap.size) (hlt : B0 ≤ base) : Grid w' (base + 1) B A rs := by
  obtain ⟨row, hg, hr⟩ := hw
  obtain ⟨hs, h1, h2⟩ := h
  exact ⟨hs, h1.apart hB hg (fun i hi => by have := hr i hi; omega), h2.apart hB hg (fun i hi => by have := hr i hi; omega)⟩
theorem Wrote.gridElder {b0 B0 : Nat} (hw : Wrote b0 B0 w w') (h : Grid w base B A rs) (hB : B ≤ w.heap.size) (hlt : B ≤ b0) : Grid w' base B A rs := by
  obtain ⟨row, hg, hr⟩ := hw
  obtain ⟨hs, h1, h2⟩ := h
  exact ⟨hs, h1.elder hB hg (fun i hi => by have := hr i hi; omega), h2.elder hB hg (fun i hi => by have := hr i hi; omega)⟩
end

def eqG (xs ys : List (List Int)) : Bool := decide (xs = ys)
theorem eqG_self (xs : List (List Int)) : eqG xs xs = true := by simp [eqG]
theorem eqG_ne {xs ys : List (List Int)} {k : Nat} (h1 : k < xs.length) (h2 : k < ys.length) (h : xs[k] ≠ ys[k]) : eqG xs ys = false := by
  simp only [eqG, decide_eq_false_iff_not]
  rintro rfl
  exact h rfl
theorem eqG_of {xs ys : List (List Int)} (h : xs.length = ys.length) (h2 : xs.take xs.length = ys.take xs.length) : eqG xs ys = true := by
  rw [List.take_length, List.take_of_length_le (by omega)] at h2
  simp [eqG, h2]

set_option maxRecDepth 100000 in
set_option maxHeartbeats 1000000 in
theorem eqIntSS_any (A B : Option Addr) (c d : Nat) (xs ys : List (List Int)) (w : World) (hx : Grid w 0 w.heap.size A xs) (hy : Grid w 0 w.heap.size B ys) (hl : xs.length ≤ 1000000000) (hrl : ∀ (i : Nat) (hi : i < xs.length), xs[i].length ≤ 1000000000) :
    Calls Try.prog 35 #[.slice A xs.length c, .slice B ys.length d] w fun e w' => e = .returned (.bool (eqG xs ys)) ∧ ∃ n, w' = w.drewN n := by
  have HRL := Lib.hid hrl
  clear hrl
  by_cases hne : xs.length = ys.length
  · have HN := Lib.hid hne
    have hle : xs.length ≤ ys.length := by omega
    have ht : ((xs.length : Int) != (ys.length : Int)) = false := by simp; omega
    clear hne
    go_enter Try.func35, Try.ntmps35
    go_wp2
    go_loopw [5] (fun i wr => ∃ k : Nat, k ≤ xs.length ∧ i = .int .i64 k ∧ xs.take k = ys.take k ∧ ∃ n, wr = w.drewN n) (fun i _ => xs.length - (intOf i).toNat)
    case atStart => exact ⟨0, by omega, rfl, by simp, 0, rfl⟩
    case round =>
      obtain ⟨k, hk, rfl, hall, hwr⟩ := hrel
      have hbw : Below w.heap.size w wr := by obtain ⟨n, rfl⟩ := hwr; exact below_drewN (Below.refl _ _) n
      have hxr := hx.below hbw
      have hyr := hy.below hbw
      have HWR := Lib.hid hwr
      obtain ⟨W, hW⟩ : ∃ W : World, W = wr := ⟨_, rfl⟩
      subst hW
      have HA := Lib.hid hall; clear hall hwr hbw
      clear ht
      by_cases hlt : k < xs.length
      · obtain ⟨b, o, R, c1, rfl, hb, hcell, hc1, ho⟩ := hxr.open hlt
        obtain ⟨b', o', R', c2, rfl, hb', hcell', hc2, ho'⟩ := hyr.open (show k < ys.length by omega)
        have hlt2 : (k : Int) < ys.length := by omega
        have hs0 : w.heap.size ≤ W.heap.size := by obtain ⟨n, hn⟩ := HWR.out; rw [hn]; exact Nat.le_refl _
        have hq := fun m => eqIntS_any R R' c1 c2 xs[k] (ys[k]'(by omega)) (W.drewN m) ((ho.below (below_drewN (Below.refl _ _) m)).more hs0) ((ho'.below (below_drewN (Below.refl _ _) m)).more hs0) (by have := HRL.out k hlt; omega)
        obtain ⟨q, hqe⟩ : ∃ q, eqI xs[k] (ys[k]'(by omega)) = q := ⟨_, rfl⟩
        rw [hqe] at hq
        have HQ := Lib.hid hq
        have HQE := Lib.hid hqe
        clear hq hqe ho ho'
        go_wp2
        go_quiet ((go_at_call 36; exact Calls.quiet_of (HQ.out _)))
        go_wp2
        · have h : (!q) = true := by assumption
          go_ret
          refine ⟨ret_bool (eqG_ne hlt (by omega) (fun e => ?_)).symm, ?_⟩
          · have h1 := HQE.out
            rw [e, eqI_refl'] at h1
            rw [← h1] at h; cases h
          · obtain ⟨n, hn⟩ := HWR.out; rw [hn]; exact ⟨_, World.drewN_drewN ..⟩
        · have h : (!q) = false := by assumption
          go_roundw
          case rel =>
            refine ⟨k + 1, by omega, by go_num, ?_, ?_⟩
            · have h1 := HQE.out
              have hqt : q = true := by simpa using h
              rw [hqt] at h1
              rw [List.take_succ_eq_append_getElem hlt, List.take_succ_eq_append_getElem (show k < ys.length by omega), HA.out, show xs[k] = ys[k] from by simpa [eqI] using h1]
            · obtain ⟨n, hn⟩ := HWR.out; rw [hn]; exact ⟨_, World.drewN_drewN ..⟩
          case measure => simp [intOf]; omega
      · have hk' : k = xs.length := by omega
        subst hk'
        go_wp2
        go_ret
        exact ⟨ret_bool (eqG_of HN.out HA.out).symm, HWR.out⟩
  · have ht : ((xs.length : Int) != (ys.length : Int)) = true := by simp; omega
    have HN := Lib.hid hne
    clear hne
    go_enter Try.func35, Try.ntmps35
    go_wp2
    go_ret
    refine ⟨ret_bool ?_, 0, rfl⟩
    have := HN.out
    symm
    simp only [eqG, decide_eq_false_iff_not]
    rintro rfl
    exact this rfl

def total (rs : List (List Int)) : Nat := (rs.map List.length).sum
/-- The marks of rows, one behind the other. -/
def markR : Int → List (List Int) → List (List Int)
  | _, [] => []
  | k, r :: rs => upFrom k r.length :: markR (k + r.length) rs
theorem markR_length (k : Int) (rs : List (List Int)) : (markR k rs).length = rs.length := by
  induction rs generalizing k with
  | nil => rfl
  | cons r rs ih => simp [markR, ih]
theorem markR_get (k : Int) (rs : List (List Int)) (i : Nat) (h : i < rs.length) : (markR k rs)[i]'(by rw [markR_length]; exact h) = upFrom (k + total (rs.take i)) rs[i].length := by
  induction rs generalizing k i with
  | nil => simp at h
  | cons r rs ih =>
    cases i with
    | zero => simp [markR, total]
    | succ i =>
      simp only [List.length_cons] at h
      simp only [markR, List.getElem_cons_succ, List.take_succ_cons, total, List.map_cons, List.sum_cons]
      rw [ih _ i (by omega)]
      congr 1
      simp only [total]
      push_cast
      omega
theorem total_take {rs : List (List Int)} {i : Nat} (h : i < rs.length) : total (rs.take (i + 1)) = total (rs.take i) + rs[i].length := by
  rw [List.take_succ_eq_append_getElem h]; simp only [total, List.map_append, List.sum_append, List.map_cons, List.map_nil, List.sum_cons, List.sum_nil]; omega
theorem total_take_le (rs : List (List Int)) (i : Nat) : total (rs.take i) ≤ total rs := by
  have h := congrArg total (List.take_append_drop i rs)
  simp only [total, List.map_append, List.sum_append] at h ⊢
  omega
theorem row_le_total {rs : List (List Int)} {i : Nat} (h : i < rs.length) : rs[i].length ≤ total rs := by
  have h1 := total_take h
  have h2 := total_take_le rs (i + 1)
  omega

/-- Rows of which the first i are marked. -/
def halfR (k : Int) (rs : List (List Int)) (i : Nat) : List (List Int) := (markR k rs).take i ++ rs.drop i
theorem halfR_length (k : Int) (rs : List (List Int)) (i : Nat) (h : i ≤ rs.length) : (halfR k rs i).length = rs.length := by
  simp [halfR, markR_length]; omega
theorem halfR_get (k : Int) (rs : List (List Int)) (i j : Nat) (hi : i ≤ rs.length) (hj : j < rs.length) :
    (halfR k rs i)[j]'(by rw [halfR_length k rs i hi]; exact hj) = if j < i then upFrom (k + total (rs.take j)) rs[j].length else rs[j] := by
  unfold halfR
  by_cases h : j < i
  · rw [if_pos h, List.getElem_append_left (by simp [markR_length]; omega), List.getElem_take, markR_get k rs j hj]
  · rw [if_neg h, List.getElem_append_right (by simp [markR_length]; omega), List.getElem_drop]
    congr 1
    simp [markR_length]; omega
theorem halfR_len (k : Int) (rs : List (List Int)) (i j : Nat) (hi : i ≤ rs.length) (hj : j < rs.length) : ((halfR k rs i)[j]'(by rw [halfR_length k rs i hi]; exact hj)).length = rs[j].length := by
  rw [halfR_get k rs i j hi hj]; split
  · rw [upFrom_length]
  · rfl
end Go.Proofs.Ytonnffilcmlodaa
