/- Rows of rows are sized and copied. No condition. -/
import Derived.Test.YtempfagjbpnlcaaG4
import Derived.Test.YtempfagjbpnlcaaT
namespace Go.Proofs.Ytempfagjbpnlcaa
open Go.RowKit

theorem fill_set {α : Type} (d : α) (zs : List α) (k : Nat) (hk : k < zs.length) : (zs.take k ++ List.replicate (zs.length - k) d).set k zs[k] = zs.take (k + 1) ++ List.replicate (zs.length - (k + 1)) d := by
  obtain ⟨m, hm⟩ : ∃ m, zs.length - k = m + 1 := ⟨zs.length - k - 1, by omega⟩
  rw [hm, show zs.length - (k + 1) = m by omega, List.replicate_succ, List.set_append_right _ _ (by simp; omega), List.length_take, Nat.min_eq_left (by omega), Nat.sub_self, List.set_cons_zero, List.take_succ_eq_append_getElem hk, List.append_assoc]
  rfl

theorem own_heapN {w : World} {base : Nat} {e : TypeId} {k g s : Nat} {xs : List Value} (h : w.ownsRow base e s (.slice (some ⟨g, 0, none⟩) k k) k xs) : w.heap[g]? = some (.cells xs.toArray e (0, 0)) := by
  rcases h.2 with ⟨hv, _⟩ | ⟨g', cap, cur, hv, _, hh, _, _, hcs, ht⟩
  · cases hv
  · simp only [Value.slice.injEq, Option.some.injEq, Addr.mk.injEq, and_true, true_and] at hv
    obtain ⟨rfl, rfl⟩ := hv
    rw [hh, ← ht, List.take_of_length_le (Nat.le_of_eq (by rw [Array.length_toList, hcs]))]

/-- Empty rows. -/
theorem MG.start {w : World} {base g n : Nat} (h : w.heap[g]? = some (.cells (List.replicate n (Value.slice none 0 0)).toArray 23 (0, 0))) (hb : base ≤ g) : MG w base g (List.replicate n (.slice none 0 0)) (List.replicate n []) := by
  refine ⟨h, hb, ⟨by simp, fun i hi => ?_⟩, ⟨fun i j hi hj A B c d hij h1 => ?_, fun i hi A c h1 => ?_⟩⟩
  · simp only [List.length_replicate] at hi
    refine ⟨none, 0, by simp [hi], by simp, .inl (by simp)⟩
  · simp at h1
  · simp at h1
end Go.Proofs.Ytempfagjbpnlcaa
