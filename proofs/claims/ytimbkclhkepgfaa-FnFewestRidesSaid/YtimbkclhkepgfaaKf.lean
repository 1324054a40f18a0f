/- impl.onlyAt and what a traveller tells. No condition. -/
import Derived.Test.YtimbkclhkepgfaaKe
namespace Go.Proofs.Ytimbkclhkepgfaa
open Go.RowKit

def aggT (t : List Int) : Value := .agg (t.map (Value.int .i64)).toArray
set_option maxRecDepth 100000 in
set_option maxHeartbeats 4000000 in
theorem onlyAt_any (s : Nat) (τ : Int) (w : World) (hs : s ≤ 4) :
    Calls Try.prog 24 #[.int .i64 s, .int .i64 τ] w fun e w' => e = .returned (aggT (onlyT s τ)) ∧ Below w.heap.size w w' := by
  obtain rfl | rfl | rfl | rfl | rfl : s = 0 ∨ s = 1 ∨ s = 2 ∨ s = 3 ∨ s = 4 := by omega
  · go_enter Try.func24, Try.ntmps24
    go_wp2
    go_rounds 6
    go_wp2
    exact bodyPost_ret (v := .agg #[.int .i64 τ, .int .i64 (-1), .int .i64 (-1), .int .i64 (-1), .int .i64 (-1)]) (by simp [results, Try.results24, go_sem]) rfl ⟨rfl, ((Below.refl _ _).alloc (Nat.le_refl _) _).alloc (by simp) _⟩
  · go_enter Try.func24, Try.ntmps24
    go_wp2
    go_rounds 6
    go_wp2
    exact bodyPost_ret (v := .agg #[.int .i64 (-1), .int .i64 τ, .int .i64 (-1), .int .i64 (-1), .int .i64 (-1)]) (by simp [results, Try.results24, go_sem]) rfl ⟨rfl, ((Below.refl _ _).alloc (Nat.le_refl _) _).alloc (by simp) _⟩
  · go_enter Try.func24, Try.ntmps24
    go_wp2
    go_rounds 6
    go_wp2
    exact bodyPost_ret (v := .agg #[.int .i64 (-1), .int .i64 (-1), .int .i64 τ, .int .i64 (-1), .int .i64 (-1)]) (by simp [results, Try.results24, go_sem]) rfl ⟨rfl, ((Below.refl _ _).alloc (Nat.le_refl _) _).alloc (by simp) _⟩
  · go_enter Try.func24, Try.ntmps24
    go_wp2
    go_rounds 6
    go_wp2
    exact bodyPost_ret (v := .agg #[.int .i64 (-1), .int .i64 (-1), .int .i64 (-1), .int .i64 τ, .int .i64 (-1)]) (by simp [results, Try.results24, go_sem]) rfl ⟨rfl, ((Below.refl _ _).alloc (Nat.le_refl _) _).alloc (by simp) _⟩
  · go_enter Try.func24, Try.ntmps24
    go_wp2
    go_rounds 6
    go_wp2
    exact bodyPost_ret (v := .agg #[.int .i64 (-1), .int .i64 (-1), .int .i64 (-1), .int .i64 (-1), .int .i64 τ]) (by simp [results, Try.results24, go_sem]) rfl ⟨rfl, ((Below.refl _ _).alloc (Nat.le_refl _) _).alloc (by simp) _⟩
theorem five_of {t : List Int} (h : t.length = 5) : ∃ a b c d e, t = [a, b, c, d, e] := by
  match t, h with
  | [a, b, c, d, e], _ => exact ⟨a, b, c, d, e, rfl⟩
set_option maxRecDepth 100000 in
set_option maxHeartbeats 1000000 in
theorem times_early (b : Nat) (t : List Int) (w : World) (h : T5 w b 0 t) (hl : t.length = 5) :
    Calls Try.prog 72 #[.pointer (some ⟨b, 0, none⟩)] w fun e w' => e = .returned (aggT t) ∧ Below w.heap.size w w' := by
  obtain ⟨x0, x1, x2, x3, x4, rfl⟩ := five_of hl
  have c0 : w.cell? ⟨b, 0, none⟩ = some (.int .i64 x0) := h.cell 0 (by omega)
  have c1 : w.cell? ⟨b, 1, none⟩ = some (.int .i64 x1) := h.cell 1 (by omega)
  have c2 : w.cell? ⟨b, 2, none⟩ = some (.int .i64 x2) := h.cell 2 (by omega)
  have c3 : w.cell? ⟨b, 3, none⟩ = some (.int .i64 x3) := h.cell 3 (by omega)
  have c4 : w.cell? ⟨b, 4, none⟩ = some (.int .i64 x4) := h.cell 4 (by omega)
  have hb := h.lt
  clear h hl
  go_enter Try.func72, Try.ntmps72
  go_wp2
  exact bodyPost_ret (v := .agg #[.int .i64 x0, .int .i64 x1, .int .i64 x2, .int .i64 x3, .int .i64 x4]) (by simp [results, Try.results72, go_sem]) rfl ⟨rfl, (Below.refl _ _).alloc (Nat.le_refl _) _⟩
set_option maxRecDepth 100000 in
set_option maxHeartbeats 1000000 in
theorem times_frugal (b : Nat) (t : List Int) (w : World) (h : T5 w b 6 t) (hl : t.length = 5) :
    Calls Try.prog 76 #[.pointer (some ⟨b, 0, none⟩)] w fun e w' => e = .returned (aggT t) ∧ Below w.heap.size w w' := by
  obtain ⟨x0, x1, x2, x3, x4, rfl⟩ := five_of hl
  have c0 : w.cell? ⟨b, 6, none⟩ = some (.int .i64 x0) := h.cell 0 (by omega)
  have c1 : w.cell? ⟨b, 7, none⟩ = some (.int .i64 x1) := h.cell 1 (by omega)
  have c2 : w.cell? ⟨b, 8, none⟩ = some (.int .i64 x2) := h.cell 2 (by omega)
  have c3 : w.cell? ⟨b, 9, none⟩ = some (.int .i64 x3) := h.cell 3 (by omega)
  have c4 : w.cell? ⟨b, 10, none⟩ = some (.int .i64 x4) := h.cell 4 (by omega)
  have hb := h.lt
  clear h hl
  go_enter Try.func76, Try.ntmps76
  go_wp2
  exact bodyPost_ret (v := .agg #[.int .i64 x0, .int .i64 x1, .int .i64 x2, .int .i64 x3, .int .i64 x4]) (by simp [results, Try.results76, go_sem]) rfl ⟨rfl, (Below.refl _ _).alloc (Nat.le_refl _) _⟩
set_option maxRecDepth 100000 in
set_option maxHeartbeats 1000000 in
theorem times_late (b : Nat) (t : List Int) (w : World) (h : T5 w b 0 t) (hl : t.length = 5) :
    Calls Try.prog 78 #[.pointer (some ⟨b, 0, none⟩)] w fun e w' => e = .returned (aggT t) ∧ Below w.heap.size w w' := by
  obtain ⟨x0, x1, x2, x3, x4, rfl⟩ := five_of hl
  have c0 : w.cell? ⟨b, 0, none⟩ = some (.int .i64 x0) := h.cell 0 (by omega)
  have c1 : w.cell? ⟨b, 1, none⟩ = some (.int .i64 x1) := h.cell 1 (by omega)
  have c2 : w.cell? ⟨b, 2, none⟩ = some (.int .i64 x2) := h.cell 2 (by omega)
  have c3 : w.cell? ⟨b, 3, none⟩ = some (.int .i64 x3) := h.cell 3 (by omega)
  have c4 : w.cell? ⟨b, 4, none⟩ = some (.int .i64 x4) := h.cell 4 (by omega)
  have hb := h.lt
  clear h hl
  go_enter Try.func78, Try.ntmps78
  go_wp2
  exact bodyPost_ret (v := .agg #[.int .i64 x0, .int .i64 x1, .int .i64 x2, .int .i64 x3, .int .i64 x4]) (by simp [results, Try.results78, go_sem]) rfl ⟨rfl, (Below.refl _ _).alloc (Nat.le_refl _) _⟩
end Go.Proofs.Ytimbkclhkepgfaa
