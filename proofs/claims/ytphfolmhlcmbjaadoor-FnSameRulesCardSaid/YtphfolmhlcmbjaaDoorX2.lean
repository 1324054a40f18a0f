/- Rules are copied. No condition. -/
import Derived.Test.YtphfolmhlcmbjaaDoorX1
namespace Go.Proofs.YtphfolmhlcmbjaaDoor
open Go.RowKit

set_option maxRecDepth 100000 in
theorem toRule_any (s : ByteArray) (n : Int) (w : World) :
    Calls Tryd.prog 61 #[.agg #[.string s, .int .i64 n]] w fun e w' => e = .returned (.agg #[.string s, .int .i64 n]) ∧ Below w.heap.size w w' := by
  go_enter Tryd.func61, Tryd.ntmps61
  go_wp2
  go_returns
  exact ⟨rfl, by go_grown⟩

def blankU (m : Nat) : List Value := flat (List.replicate m (ByteArray.empty, 0))
theorem blankU_succ (m : Nat) : blankU (m + 1) = [.string ByteArray.empty, .int .i64 0] ++ blankU m := by simp [blankU, List.replicate_succ, flat_cons]

theorem Tryd.infoU : (Tryd.prog.info? 31).map (fun i => (i.zero, i.size, i.bytes)) = some (some (.agg #[.string ⟨#[]⟩, .int .i64 0]), 2, 24) := by kernel_rfl

theorem own_heap2U {w : World} {base : Nat} {e : TypeId} {k g : Nat} {xs : List Value} (h : w.ownsRow base e 2 (.slice (some ⟨g, 0, none⟩) k k) k xs) : w.heap[g]? = some (.cells xs.toArray e (0, 0)) := by
  rcases h.2 with ⟨hv, _⟩ | ⟨g', cap, cur, hv, _, hh, _, _, hcs, ht⟩
  · cases hv
  · simp only [Value.slice.injEq, Option.some.injEq, Addr.mk.injEq, and_true, true_and] at hv
    obtain ⟨rfl, rfl⟩ := hv
    rw [hh, ← ht, List.take_of_length_le (Nat.le_of_eq (by rw [Array.length_toList, hcs]))]

theorem own_cellsU {w : World} {base : Nat} {e : TypeId} {g : Nat} {xs : List Value} (h : w.heap[g]? = some (.cells xs.toArray e (0, 0))) (hb : base ≤ g) : Own w (base + 1) w.heap.size (some ⟨g, 0, none⟩) xs := by
  have hlt : g < w.heap.size := by
    rcases Nat.lt_or_ge g w.heap.size with hlt | hge
    · exact hlt
    · rw [Array.getElem?_eq_none hge] at h; cases h
  refine .inr ⟨g, 0, rfl, by omega, hlt, fun j u hu => ?_, fun _ j => frozen_of_row w g j _ e h⟩
  rw [cell_of_row w g (0 + j) _ e (0, 0) h, Nat.zero_add]
  simpa using hu

theorem made_listU (z : Array Value) (n : Nat) : (madeCells z n).toList = (List.range n).map (fun i => z[i % z.size]!) := by
  unfold madeCells
  rw [Array.toList_map, Array.toList_range]
theorem made_blankU (n : Nat) : (madeCells #[Value.string ⟨#[]⟩, .int .i64 0] (n * 2)).toList = blankU n := by
  rw [made_listU]
  induction n with
  | zero => rfl
  | succ n ih =>
    have hb : blankU (n + 1) = blankU n ++ [.string ByteArray.empty, .int .i64 0] := by
      unfold blankU
      rw [List.replicate_succ', flat_append]; rfl
    rw [hb, ← ih, show (n + 1) * 2 = n * 2 + 1 + 1 by omega, List.range_succ, List.range_succ, List.map_append, List.map_append, List.append_assoc]
    congr 1
    have e1 : n * 2 % 2 = 0 := by omega
    have e2 : (n * 2 + 1) % 2 = 1 := by omega
    show [(#[Value.string ⟨#[]⟩, Value.int .i64 0])[n * 2 % 2]!, (#[Value.string ⟨#[]⟩, Value.int .i64 0])[(n * 2 + 1) % 2]!] = _
    rw [e1, e2]
    rfl

theorem blankU_step (rs : List (ByteArray × Int)) (k : Nat) (hk : k < rs.length) :
    ((flat (rs.take k) ++ blankU (rs.length - k)).set (k * 2) (.string rs[k].1)).set (k * 2 + 1) (.int .i64 rs[k].2) = flat (rs.take (k + 1)) ++ blankU (rs.length - (k + 1)) := by
  have hl : (flat (rs.take k)).length = k * 2 := by rw [flat_length, List.length_take]; omega
  obtain ⟨d, hd⟩ : ∃ d, rs.length - k = d + 1 := ⟨rs.length - k - 1, by omega⟩
  rw [hd, show rs.length - (k + 1) = d by omega, blankU_succ, List.take_succ_eq_append_getElem hk, flat_append]
  rw [List.set_append_right _ _ (by omega), List.set_append_right _ _ (by omega), hl]
  simp [flat]

set_option maxRecDepth 100000 in
set_option maxHeartbeats 1000000 in
theorem toRuleS_any (A : Option Addr) (c : Nat) (rs : List (ByteArray × Int)) (w : World) (hr : Own w 0 w.heap.size A (flat rs)) (hl : rs.length ≤ 1048576) :
    Calls Tryd.prog 33 #[.slice A rs.length c] w fun e w' => ∃ A' c', e = .returned (.slice A' rs.length c') ∧ rs.length ≤ c' ∧ Own w' (w.heap.size + 1) w'.heap.size A' (flat rs) ∧ Below w.heap.size w w' := by
  obtain ⟨i0, hi0, hz0, hz1, hz2⟩ := info_parts Tryd.infoU
  go_enter Tryd.func33, Tryd.ntmps33
  go_wp2_with (at_make; refine wpList_make_full _ rfl (.tmp 6) (.tmp 6) _ rfl w.heap.size 31 i0 (.agg #[.string ⟨#[]⟩, .int .i64 0]) 2 Tryd.underlying23 hi0 hz0 hz1 _ _ _ _ _ rfl rfl rfl rfl (by rw [hz2]; omega) (by unfold maxLen; omega) (Nat.le_refl _) ?_)
  intro w1 hown hg
  have hb1 : Below w.heap.size w w1 := (Below.refl _ _).grown hg (Nat.le_refl _) (by simp)
  have hblk := own_heap2U hown
  rw [made_blankU] at hblk
  have HB1 := Lib.hid (And.intro hblk hb1)
  clear hown hg hb1 hblk
  go_wp2
  go_loopw [4] (fun i wr => ∃ k : Nat, k ≤ rs.length ∧ i = .int .i64 k ∧ wr.heap[w.heap.size]? = some (.cells (flat (rs.take k) ++ blankU (rs.length - k)).toArray 31 (0, 0)) ∧ Below w.heap.size w wr) (fun i _ => rs.length - (intOf i).toNat)
  case atStart => exact ⟨0, by omega, rfl, by simpa [flat] using HB1.out.1, HB1.out.2⟩
  case round =>
    obtain ⟨k, hk, rfl, hblk, hbr⟩ := hrel
    clear HB1
    by_cases hlt : k < rs.length
    · obtain ⟨b, o, rfl, hb, hc⟩ := (hr.below hbr).open (by rw [flat_length]; omega)
      obtain ⟨hc1, hc2⟩ := routes_at hc hlt
      have HBK := Lib.hid hblk
      have HBR := Lib.hid hbr
      clear hc hblk hbr
      go_wp2_with fail
      refine (toRule_any rs[k].1 rs[k].2 wr).mono ?_
      rintro e w2 ⟨rfl, b2⟩
      have hw : w.heap.size < wr.heap.size := by
        rcases Nat.lt_or_ge w.heap.size wr.heap.size with hlt | hge
        · exact hlt
        · have := HBK.out; rw [Array.getElem?_eq_none hge] at this; cases this
      have hblk2 := (b2.block w.heap.size hw).trans HBK.out
      have hn1 : k * 2 < (flat (rs.take k) ++ blankU (rs.length - k)).length := by
        rw [List.length_append, flat_length, List.length_take, blankU, flat_length, List.length_replicate]; omega
      have hn2 : k * 2 + 1 < (flat (rs.take k) ++ blankU (rs.length - k)).length := by
        rw [List.length_append, flat_length, List.length_take, blankU, flat_length, List.length_replicate]; omega
      have g1 : w2.cell? ⟨w.heap.size, k * 2, none⟩ = some ((flat (rs.take k) ++ blankU (rs.length - k))[k * 2]) := by
        rw [cell_of_row w2 _ _ _ _ _ hblk2]; simp [List.getElem?_eq_getElem hn1]
      have g2 : w2.cell? ⟨w.heap.size, k * 2 + 1, none⟩ = some ((flat (rs.take k) ++ blankU (rs.length - k))[k * 2 + 1]) := by
        rw [cell_of_row w2 _ _ _ _ _ hblk2]; simp [List.getElem?_eq_getElem hn2]
      obtain ⟨x1, hx1⟩ : ∃ x, (flat (rs.take k) ++ blankU (rs.length - k))[k * 2] = x := ⟨_, rfl⟩
      obtain ⟨x2, hx2⟩ : ∃ x, (flat (rs.take k) ++ blankU (rs.length - k))[k * 2 + 1] = x := ⟨_, rfl⟩
      rw [hx1] at g1
      rw [hx2] at g2
      have f1 := frozen_of_row w2 w.heap.size (k * 2) _ _ hblk2
      have f2 := frozen_of_row w2 w.heap.size (k * 2 + 1) _ _ hblk2
      have HB2 := Lib.hid (And.intro hblk2 b2)
      clear hblk2 b2 hn1 hn2 hx1 hx2 hw
      go_wp2
      go_roundw
      case rel =>
        refine ⟨k + 1, by omega, by go_num, ?_, (((HBR.out.trans (HB2.out.2.mono HBR.out.size)).setCell (p := ⟨w.heap.size, k * 2, none⟩) (Nat.le_refl _) _).setCell (p := ⟨w.heap.size, k * 2 + 1, none⟩) (Nat.le_refl _) _)⟩
        have h1 := heap_setCell_same w2 w.heap.size (k * 2) _ _ (.string rs[k].1) HB2.out.1
        have h2 := heap_setCell_same _ w.heap.size (k * 2 + 1) _ _ (.int .i64 rs[k].2) h1
        rw [h2, List.setIfInBounds_toArray, List.setIfInBounds_toArray, blankU_step rs k hlt]
      case measure => simp [intOf]; omega
    · have hk' : k = rs.length := by omega
      subst hk'
      have hfin : flat (rs.take rs.length) ++ blankU (rs.length - rs.length) = flat rs := by
        rw [List.take_length, Nat.sub_self]; simp [blankU, flat]
      rw [hfin] at hblk
      have HBK := Lib.hid hblk
      have HBR := Lib.hid hbr
      clear hfin hblk hbr
      go_wp2
      go_ret
      exact ⟨_, _, rfl, Nat.le_refl _, own_cellsU HBK.out (Nat.le_refl _), HBR.out⟩
end Go.Proofs.YtphfolmhlcmbjaaDoor
