/- Routes in memory. No condition. -/
import Derived.Test.YtempfagjbpnlcaaDr
import Derived.Test.YtempfagjbpnlcaaMark2
namespace Go.Proofs.Ytempfagjbpnlcaa
open Go.RowKit

/-- A list of heads and offices, as it lies in memory. -/
def flat (rs : List (ByteArray × Int)) : List Value := rs.flatMap fun r => [.string r.1, .int .i64 r.2]
theorem flat_length (rs : List (ByteArray × Int)) : (flat rs).length = 2 * rs.length := by
  induction rs with
  | nil => rfl
  | cons r rs ih => simp only [flat, List.flatMap_cons, List.length_append, List.length_cons, List.length_nil] at ih ⊢; omega
theorem flat_cons (r : ByteArray × Int) (rs : List (ByteArray × Int)) : flat (r :: rs) = [.string r.1, .int .i64 r.2] ++ flat rs := rfl
theorem flat_append (rs ss : List (ByteArray × Int)) : flat (rs ++ ss) = flat rs ++ flat ss := by simp [flat]
theorem flat_get (rs : List (ByteArray × Int)) (k : Nat) (h : k < rs.length) : (flat rs)[k * 2]? = some (.string rs[k].1) ∧ (flat rs)[k * 2 + 1]? = some (.int .i64 rs[k].2) := by
  induction rs generalizing k with
  | nil => simp at h
  | cons r rs ih =>
    rw [flat_cons]
    cases k with
    | zero => exact ⟨rfl, rfl⟩
    | succ k =>
      simp only [List.length_cons] at h
      have := ih k (by omega)
      rw [List.getElem?_append_right (by simp; omega), List.getElem?_append_right (by simp; omega)]
      simp only [List.length_cons, List.length_nil, List.getElem_cons_succ]
      rw [show (k + 1) * 2 - (0 + 1 + 1) = k * 2 by omega, show (k + 1) * 2 + 1 - (0 + 1 + 1) = k * 2 + 1 by omega]
      exact this
theorem routes_at {w : World} {b o : Nat} {rs : List (ByteArray × Int)} (hc : ∀ j u, (flat rs)[j]? = some u → w.cell? ⟨b, o + j, none⟩ = some u) {k : Nat} (hk : k < rs.length) :
    w.cell? ⟨b, o + k * 2, none⟩ = some (.string rs[k].1) ∧ w.cell? ⟨b, o + k * 2 + 1, none⟩ = some (.int .i64 rs[k].2) := by
  have h := flat_get rs k hk
  exact ⟨hc _ _ h.1, by rw [Nat.add_assoc]; exact hc _ _ h.2⟩

theorem cell_stay {w w' : World} {b off : Nat} {v : Value} (q : Below w.heap.size w w') (hb : b < w.heap.size) (h : w.cell? ⟨b, off, none⟩ = some v) : w'.cell? ⟨b, off, none⟩ = some v := by
  rw [q.cell (p := ⟨b, off, none⟩) hb]; exact h
end Go.Proofs.Ytempfagjbpnlcaa
