/- Plain words for memory and small lemmas that the walks of this seat use. No condition. -/
import Derived.Below
import Derived.WalkKit
import Derived.Lib.Hide
import Derived.BigQuiet
import Derived.Deep.QuietTactic
import Derived.Handy
namespace Go.Proofs.Ytempfagjbpnlcaa
open Go.RowKit

/-- The cells from address A on hold the values xs; they lie in one block below B; with a base, they may be written, and the block is not below the number ahead of it. -/
def Own (w : World) (base B : Nat) (A : Option Addr) (xs : List Value) : Prop :=
  xs = [] ∨ ∃ b o, A = some ⟨b, o, none⟩ ∧ base ≤ b + 1 ∧ b < B ∧ (∀ j u, xs[j]? = some u → w.cell? ⟨b, o + j, none⟩ = some u) ∧ (0 < base → ∀ j, w.frozen? ⟨b, j, none⟩ = false)

/-- The cells from address A on hold the values xs; they lie below block B. -/
abbrev Row (w : World) (B : Nat) (A : Option Addr) (xs : List Value) : Prop := Own w 0 B A xs

theorem Own.nil (w : World) (base B : Nat) (A : Option Addr) : Own w base B A [] := .inl rfl

section
variable {w w' : World} {base base' B B' : Nat} {A : Option Addr} {xs : List Value}

theorem Own.below (h : Own w base B A xs) (hb : Below B w w') : Own w' base B A xs := by
  rcases h with h | ⟨b, o, rfl, h0, hlt, hc, hf⟩
  · exact .inl h
  · exact .inr ⟨b, o, rfl, h0, hlt, fun j u hu => by rw [hb.cell (p := ⟨b, o + j, none⟩) hlt]; exact hc j u hu, fun h j => by rw [hb.frozen (p := ⟨b, j, none⟩) hlt]; exact hf h j⟩

theorem Own.more (h : Own w base B A xs) (hB : B ≤ B') : Own w base B' A xs := by
  rcases h with h | ⟨b, o, rfl, h0, hlt, hc⟩
  · exact .inl h
  · exact .inr ⟨b, o, rfl, h0, by omega, hc⟩

theorem Own.less (h : Own w base B A xs) (hb : base' ≤ base) : Own w base' B A xs := by
  rcases h with h | ⟨b, o, rfl, h0, hlt, hc, hf⟩
  · exact .inl h
  · exact .inr ⟨b, o, rfl, by omega, hlt, hc, fun h j => hf (by omega) j⟩

theorem Own.row (h : Own w base B A xs) : Row w B A xs := by
  rcases h with h | ⟨b, o, rfl, h0, hlt, hc, hf⟩
  · exact .inl h
  · exact .inr ⟨b, o, rfl, by omega, hlt, hc, fun h => by omega⟩

/-- The address of a row that is not empty, and its cells. -/
theorem Own.open (h : Own w base B A xs) (hne : 0 < xs.length) :
    ∃ b o, A = some ⟨b, o, none⟩ ∧ b < B ∧ ∀ j u, xs[j]? = some u → w.cell? ⟨b, o + j, none⟩ = some u := by
  rcases h with rfl | ⟨b, o, hA, _, hlt, hc, _⟩
  · simp at hne
  · exact ⟨b, o, hA, hlt, hc⟩

/-- Behind a call that wrote below nothing: the row stays, whatever is its block's bound. -/
theorem Own.past (h : Own w base w.heap.size A xs) (hb : Below w.heap.size w w') : Own w' base w'.heap.size A xs := (h.below hb).more hb.size

theorem Own.take (h : Own w base B A xs) (k : Nat) : Own w base B A (xs.take k) := by
  rcases h with rfl | ⟨b, o, rfl, h0, hlt, hc, hf⟩
  · exact .inl (by simp)
  · refine .inr ⟨b, o, rfl, h0, hlt, fun j u hu => hc j u ?_, hf⟩
    rw [List.getElem?_take] at hu
    split at hu
    · exact hu
    · cases hu

theorem Own.open' (h : Own w base B A xs) (hb : 0 < base) (hne : 0 < xs.length) :
    ∃ b o, A = some ⟨b, o, none⟩ ∧ base ≤ b + 1 ∧ b < B ∧ (∀ j u, xs[j]? = some u → w.cell? ⟨b, o + j, none⟩ = some u) ∧ (∀ j, w.frozen? ⟨b, j, none⟩ = false) := by
  rcases h with rfl | ⟨b, o, hA, h0, hlt, hc, hf⟩
  · simp at hne
  · exact ⟨b, o, hA, h0, hlt, hc, hf hb⟩

/-- A store into the row. -/
theorem Own.set {b o : Nat} (h : Own w base B (some ⟨b, o, none⟩) xs) (k : Nat) (u : Value) : Own (w.setCell ⟨b, o + k, none⟩ u) base B (some ⟨b, o, none⟩) (xs.set k u) := by
  rcases h with rfl | ⟨b', o', hA, h0, hlt, hc, hf⟩
  · exact .inl (by simp)
  · simp only [Option.some.injEq, Addr.mk.injEq, and_true] at hA
    obtain ⟨rfl, rfl⟩ := hA
    refine .inr ⟨b, o, rfl, h0, hlt, fun j u' hu => ?_, fun hb j => ?_⟩
    · rw [List.getElem?_set] at hu
      by_cases hkj : k = j
      · subst hkj
        rw [if_pos rfl] at hu
        split at hu
        · rename_i hk
          have hcell := hc k _ (List.getElem?_eq_getElem hk)
          rw [World.cell?_setCell_same w _ _ hcell]; exact hu
        · cases hu
      · rw [if_neg hkj] at hu
        rw [World.cell?_setCell_other w _ _ _ (by intro e; injection e with _ e2; omega)]
        exact hc j u' hu
    · rw [World.frozen?_setCell]; exact hf hb j

/-- Behind a call that wrote block g alone. -/
theorem Own.grown {g : Nat} (h : Own w base B A xs) (hB : B ≤ w.heap.size) (hg : w.grownBy w' (some g)) (hne : ∀ b o, A = some ⟨b, o, none⟩ → b ≠ g) : Own w' base B A xs := by
  rcases h with h | ⟨b, o, rfl, h0, hlt, hc, hf⟩
  · exact .inl h
  · have hb := hg.block b (by omega) (fun e => hne b o rfl (by injection e))
    exact .inr ⟨b, o, rfl, h0, hlt, fun j u hu => (World.cell?_of_block (a := ⟨b, o + j, none⟩) hb).trans (hc j u hu), fun h j => (World.frozen?_of_block (a := ⟨b, j, none⟩) hb).trans (hf h j)⟩

/-- What the library's word says of a slice that the call made. -/
theorem own_of_row {e : TypeId} {v : Value} {n : Nat} (h : w.ownsRow base e 1 v n xs) : ∃ A c, v = .slice A n c ∧ xs.length = n ∧ Own w (base + 1) w.heap.size A xs := by
  have hlt := h.lt
  obtain ⟨hlen, hx⟩ := h
  simp only [Nat.mul_one] at hlen
  rcases hx with ⟨rfl, rfl⟩ | ⟨g, cap, cur, rfl, hg, hh, hnc, _, hcs, htake⟩
  · exact ⟨none, 0, rfl, hlen, .inl (List.eq_nil_of_length_eq_zero hlen)⟩
  · refine ⟨_, cap, rfl, hlen, .inr ⟨g, 0, rfl, by omega, (hlt g rfl).2, fun j u hu => ?_, fun _ j => ?_⟩⟩
    · rw [cell_of_row w g (0 + j) cur e (0, 0) hh]
      rw [← htake] at hu
      have : j < n * 1 := by
        have := (List.getElem?_eq_some_iff.1 hu).1
        simp only [List.length_take] at this
        omega
      rw [List.getElem?_take, if_pos this] at hu
      simpa using hu
    · exact frozen_of_row w g j cur e hh
end

theorem below_drewN {B : Nat} {a w : World} (h : Below B a w) (n : Nat) : Below B a (w.drewN n) := ⟨h.os, h.tape, h.output, h.size, h.block⟩
theorem heap_new {w : World} {k : Nat} (o : Obj) (h : k = w.heap.size) : (w.alloc o).heap[k]? = some o := by rw [h]; exact heap_alloc_new w o
theorem heap_more {w : World} {k : Nat} {x : Obj} (o : Obj) (h : w.heap[k]? = some x) : (w.alloc o).heap[k]? = some x := by
  rw [Below.heap_alloc]
  · exact h
  · rcases Nat.lt_or_ge k w.heap.size with hlt | hge
    · exact hlt
    · rw [Array.getElem?_eq_none hge] at h; cases h
theorem ret_bool {a b : Bool} (h : a = b) : Ending.returned (.bool a) = .returned (.bool b) := by rw [h]
theorem ret_int {k : IntKind} {a b : Int} (h : a = b) : Ending.returned (.int k a) = .returned (.int k b) := by rw [h]

/-- A row of numbers. -/
abbrev OwnInts (w : World) (base B : Nat) (A : Option Addr) (zs : List Int) : Prop := Own w (base + 1) B A (zs.map (Value.int .i64))
abbrev Ints (w : World) (B : Nat) (A : Option Addr) (zs : List Int) : Prop := Own w 0 B A (zs.map (Value.int .i64))

theorem ints_at {w : World} {b o : Nat} {zs : List Int} (hc : ∀ j u, (zs.map (Value.int .i64))[j]? = some u → w.cell? ⟨b, o + j, none⟩ = some u) {k : Nat} (hk : k < zs.length) :
    w.cell? ⟨b, o + k, none⟩ = some (.int .i64 zs[k]) := by
  refine hc k _ ?_
  simp [List.getElem?_map, List.getElem?_eq_getElem hk]

theorem take_all {zs : List Int} {p : Int → Bool} {k : Nat} (hk : k < zs.length) : (zs.take (k + 1)).all p = ((zs.take k).all p && p zs[k]) := by
  rw [List.take_succ_eq_append_getElem hk, List.all_append]; simp only [List.all_cons, List.all_nil, Bool.and_true]

/-- One round of a loop that copies into a made row. -/
theorem fill_step {α : Type} (d : α) (f : α → Value) (zs : List α) (k : Nat) (hk : k < zs.length) :
    ((zs.take k ++ List.replicate (zs.length - k) d).map f).set k (f zs[k]) = (zs.take (k + 1) ++ List.replicate (zs.length - (k + 1)) d).map f := by
  apply List.ext_getElem?
  intro i
  rw [List.getElem?_set]
  by_cases hik : k = i
  · subst hik
    rw [if_pos rfl, if_pos (by simp; omega), List.getElem?_map, List.getElem?_append_left (by simp; omega), List.getElem?_take, if_pos (by omega), List.getElem?_eq_getElem hk]
    rfl
  · rw [if_neg hik, List.getElem?_map, List.getElem?_map]
    congr 1
    by_cases hi : i < k
    · rw [List.getElem?_append_left (by simp; omega), List.getElem?_append_left (by simp; omega), List.getElem?_take, List.getElem?_take, if_pos hi, if_pos (by omega)]
    · rw [List.getElem?_append_right (by simp; omega), List.getElem?_append_right (by simp; omega), List.getElem?_replicate, List.getElem?_replicate]
      simp only [List.length_take]
      rw [Nat.min_eq_left (by omega), Nat.min_eq_left (by omega)]
      by_cases h2 : i < zs.length
      · rw [if_pos (by omega), if_pos (by omega)]
      · rw [if_neg (by omega), if_neg (by omega)]
end Go.Proofs.Ytempfagjbpnlcaa
