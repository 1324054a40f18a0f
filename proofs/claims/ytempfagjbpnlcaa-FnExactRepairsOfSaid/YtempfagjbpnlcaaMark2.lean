/- Marks, and which block they write. No condition. -/
import Derived.Test.YtempfagjbpnlcaaMark
import Derived.Test.YtempfagjbpnlcaaDr
namespace Go.Proofs.Ytempfagjbpnlcaa
open Go.RowKit

theorem g_set {a w : World} {b : Nat} (h : a.grownBy w (some b)) (o : Nat) (v : Value) : a.grownBy (w.setCell ⟨b, o, none⟩ v) (some b) :=
  ⟨h.os, h.tape, h.output, by simp [World.setCell]; exact h.size, fun i hi hne => by rw [Below.heap_setCell _ _ _ _ (fun e => hne (by rw [e]))]; exact h.block i hi hne⟩

/-- A row of the call's own, behind a call that wrote an older block. -/
theorem Own.apart {w w' : World} {base B : Nat} {A : Option Addr} {xs : List Value} {row : Option Nat} (h : Own w (base + 1) B A xs) (hB : B ≤ w.heap.size) (hg : w.grownBy w' row) (hr : ∀ i, row = some i → i < base) : Own w' (base + 1) B A xs := by
  rcases h with h | ⟨b, o, rfl, h0, hlt, hc, hf⟩
  · exact .inl h
  · have hb := hg.block b (by omega) (fun e => by have := hr b e.symm; omega)
    exact .inr ⟨b, o, rfl, h0, hlt, fun j u hu => (World.cell?_of_block (a := ⟨b, o + j, none⟩) hb).trans (hc j u hu), fun h j => (World.frozen?_of_block (a := ⟨b, j, none⟩) hb).trans (hf h j)⟩
/-- A row that is older than the block that a call wrote. -/
theorem Own.elder {w w' : World} {base B : Nat} {A : Option Addr} {xs : List Value} {row : Option Nat} (h : Own w base B A xs) (hB : B ≤ w.heap.size) (hg : w.grownBy w' row) (hr : ∀ i, row = some i → B ≤ i) : Own w' base B A xs := by
  rcases h with h | ⟨b, o, rfl, h0, hlt, hc, hf⟩
  · exact .inl h
  · have hb := hg.block b (by omega) (fun e => by have := hr b e.symm; omega)
    exact .inr ⟨b, o, rfl, h0, hlt, fun j u hu => (World.cell?_of_block (a := ⟨b, o + j, none⟩) hb).trans (hc j u hu), fun h j => (World.frozen?_of_block (a := ⟨b, j, none⟩) hb).trans (hf h j)⟩
/-- One block from base on and below B was written, and new ones. -/
def Wrote (base B : Nat) (w w' : World) : Prop := ∃ row, w.grownBy w' row ∧ ∀ i, row = some i → base ≤ i ∧ i < B
theorem Wrote.apart {w w' : World} {b0 B0 base B : Nat} {A : Option Addr} {xs : List Value} (hw : Wrote b0 B0 w w') (h : Own w (base + 1) B A xs) (hB : B ≤ w.heap.size) (hlt : B0 ≤ base) : Own w' (base + 1) B A xs := by
  obtain ⟨row, hg, hr⟩ := hw
  exact h.apart hB hg (fun i hi => by have := hr i hi; omega)
theorem Wrote.elder {w w' : World} {b0 B0 base B : Nat} {A : Option Addr} {xs : List Value} (hw : Wrote b0 B0 w w') (h : Own w base B A xs) (hB : B ≤ w.heap.size) (hlt : B ≤ b0) : Own w' base B A xs := by
  obtain ⟨row, hg, hr⟩ := hw
  exact h.elder hB hg (fun i hi => by have := hr i hi; omega)
theorem Wrote.below {w w' : World} {b0 B0 B : Nat} (hw : Wrote b0 B0 w w') (hB : B ≤ b0) (hBw : B ≤ w.heap.size) : Below B w w' := by
  obtain ⟨row, hg, hr⟩ := hw
  exact ⟨hg.os, hg.tape, hg.output, hg.size, fun i hi => hg.block i (by omega) (fun e => by have := hr i e.symm; omega)⟩
theorem Wrote.size {w w' : World} {b0 B0 : Nat} (hw : Wrote b0 B0 w w') : w.heap.size ≤ w'.heap.size := by
  obtain ⟨row, hg, _⟩ := hw
  exact hg.size

set_option maxRecDepth 100000 in
set_option maxHeartbeats 1000000 in
theorem markIntS_at (A : Option Addr) (c : Nat) (zs : List Int) (k : Int) (base B : Nat) (w : World) (ho : OwnInts w base B A zs) (hl : zs.length ≤ 1000000000) (hk0 : 0 ≤ k) (hk1 : k ≤ 1000000000) :
    Calls Try.prog 22 #[.slice A zs.length c, .int .i64 k] w fun e w' => e = .returned (.int .i64 (k + zs.length)) ∧ OwnInts w' base B A (upFrom k zs.length) ∧ Wrote base B w w' := by
  by_cases h0 : zs.length = 0
  · have hz : zs = [] := List.eq_nil_of_length_eq_zero h0
    subst hz
    clear ho
    go_enter Try.func22, Try.ntmps22
    go_wp2
    go_rounds 1
    go_ret
    exact ⟨by simp, .inl (by simp [upFrom]), none, World.grownBy.refl w _, by simp⟩
  · obtain ⟨b, o, rfl, hbb, hlt, hc, hf⟩ := ho.open' (by omega) (by simp; omega)
    have hst : OwnInts w base B (some ⟨b, o, none⟩) (upFrom k 0 ++ zs.drop 0) := by simpa [upFrom] using ho
    clear ho hc h0
    go_enter Try.func22, Try.ntmps22
    go_wp2
    go_loopw [1, 5] (fun m i wr => ∃ j : Nat, j ≤ zs.length ∧ i = .int .i64 j ∧ m = .int .i64 (k + j) ∧ OwnInts wr base B (some ⟨b, o, none⟩) (upFrom k j ++ zs.drop j) ∧ w.grownBy wr (some b)) (fun _ i _ => zs.length - (intOf i).toNat)
    case atStart => exact ⟨0, by omega, rfl, by simp, hst, World.grownBy.refl w _⟩
    case round =>
      obtain ⟨j, hj, rfl, rfl, ho, hbr⟩ := hrel
      clear hst hf
      by_cases hlt' : j < zs.length
      · obtain ⟨b', o', e', _, _, hc, hf⟩ := ho.open' (by omega) (by simp [upFrom_length]; omega)
        simp only [Option.some.injEq, Addr.mk.injEq, and_true] at e'
        obtain ⟨rfl, rfl⟩ := e'
        have hcell := hc j (.int .i64 zs[j]) (by
          rw [List.getElem?_map, List.getElem?_append_right (by rw [upFrom_length]; omega), upFrom_length, List.getElem?_drop, Nat.sub_self, Nat.add_zero, List.getElem?_eq_getElem hlt']
          rfl)
        have hfr := hf (o + j)
        have hset := ho.set j (.int .i64 (k + j))
        rw [mark_step k zs j hlt'] at hset
        have HSET := Lib.hid hset
        have hbs := g_set hbr (o + j) (.int .i64 (k + j))
        clear hc hf hset ho hbr
        go_wp2
        go_roundw
        case rel => exact ⟨j + 1, by omega, by go_num, by go_num, HSET.out, hbs⟩
        case measure => simp [intOf]; omega
      · have hj' : j = zs.length := by omega
        subst hj'
        go_wp2
        go_ret
        exact ⟨rfl, by simpa using ho, some b, hbr, fun i hi => by injection hi with hi; omega⟩

/-- A row stays behind a call that changed nothing old. -/
theorem Own.keep {w w' : World} {base B : Nat} {A : Option Addr} {xs : List Value} (h : Own w base B A xs) (hB : B ≤ w.heap.size) (hb : Below w.heap.size w w') : Own w' base B A xs := h.below (hb.mono hB)
end Go.Proofs.Ytempfagjbpnlcaa
