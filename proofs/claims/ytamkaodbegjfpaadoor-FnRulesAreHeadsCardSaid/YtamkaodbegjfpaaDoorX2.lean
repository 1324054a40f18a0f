/- Rules are copied. No condition. -/
import Derived.Test.YtamkaodbegjfpaaDoorX1
namespace Go.Proofs.YtamkaodbegjfpaaDoor
open Go.RowKit

def blankU (m : Nat) : List Value := flat (List.replicate m (ByteArray.empty, 0))
theorem blankU_succ (m : Nat) : blankU (m + 1) = [.string ByteArray.empty, .int .i64 0] ++ blankU m := by simp [blankU, List.replicate_succ, flat_cons]

theorem Tryd.infoU : (Tryd.prog.info? 30).map (fun i => (i.zero, i.size, i.bytes)) = some (some (.agg #[.string ⟨#[]⟩, .int .i64 0]), 2, 24) := by kernel_rfl

theorem own_heap2U {w : World} {base : Nat} {e : TypeId} {k g : Nat} {xs : List Value} (h : w.ownsRow base e 2 (.slice (some ⟨g, 0, none⟩) k k) k xs) : w.heap[g]? = some (.cells xs.toArray e (0, 0)) := by
  rcases h.2 with ⟨hv, _⟩ | ⟨g', cap, cur, hv, _, hh, _, _, hcs, ht⟩
  · cases hv
  · simp only [Value.slice.injEq, Option.some.injEq, Addr.mk.injEq, and_true, true_and] at hv
    obtain ⟨rfl, rfl⟩ := hv
    rw [hh, ← ht, List.take_of_length_le (Nat.le_of_eq (by rw [Array.length_toList, hcs]))]

theorem own_cellsU {w : World} {base : Nat} {e : TypeId} {g : Nat} {xs : List Value} (h : w.heap[g]? = some (.cells xs.toArray e (0, 0))) (hb : base ≤ g) : Own w (base + 1) w.heap.size (some ⟨g, 0, none⟩) xs := by
  have hlt : g < w.heap.size := by
    rcases Nat.lt_or_ge g w.heap.size with hlt | hge
    · exact hlt
    · rw [Array.getElem?_eq_none hge] at h; cases h
  refine .inr ⟨g, 0, rfl, by omega, hlt, fun j u hu => ?_, fun _ j => frozen_of_row w g j _ e h⟩
  rw [cell_of_row w g (0 + j) _ e (0, 0) h, Nat.zero_add]
  simpa using hu

theorem made_listU (z : Array Value) (n : Nat) : (madeCells z n).toList = (List.range n).map (fun i => z[i % z.size]!) := by
  unfold madeCells
  rw [Array.toList_map, Array.toList_range]
theorem made_blankU (n : Nat) : (madeCells #[Value.string ⟨#[]⟩, .int .i64 0] (n * 2)).toList = blankU n := by
  rw [made_listU]
  induction n with
  | zero => rfl
  | succ n ih =>
    have hb : blankU (n + 1) = blankU n ++ [.string ByteArray.empty, .int .i64 0] := by
      unfold blankU
      rw [List.replicate_succ', flat_append]; rfl
    rw [hb, ← ih, show (n + 1) * 2 = n * 2 + 1 + 1 by omega, List.range_succ, List.range_succ, List.map_append, List.map_append, List.append_assoc]
    congr 1
    have e1 : n * 2 % 2 = 0 := by omega
    have e2 : (n * 2 + 1) % 2 = 1 := by omega
    show [(#[Value.string ⟨#[]⟩, Value.int .i64 0])[n * 2 % 2]!, (#[Value.string ⟨#[]⟩, Value.int .i64 0])[(n * 2 + 1) % 2]!] = _
    rw [e1, e2]
    rfl

theorem blankU_step (rs : List (ByteArray × Int)) (k : Nat) (hk : k < rs.length) :
    ((flat (rs.take k) ++ blankU (rs.length - k)).set (k * 2) (.string rs[k].1)).set (k * 2 + 1) (.int .i64 rs[k].2) = flat (rs.take (k + 1)) ++ blankU (rs.length - (k + 1)) := by
  have hl : (flat (rs.take k)).length = k * 2 := by rw [flat_length, List.length_take]; omega
  obtain ⟨d, hd⟩ : ∃ d, rs.length - k = d + 1 := ⟨rs.length - k - 1, by omega⟩
  rw [hd, show rs.length - (k + 1) = d by omega, blankU_succ, List.take_succ_eq_append_getElem hk, flat_append]
  rw [List.set_append_right _ _ (by omega), List.set_append_right _ _ (by omega), hl]
  simp [flat]
end Go.Proofs.YtamkaodbegjfpaaDoor
