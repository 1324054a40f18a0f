/- laws.toIntS. No condition. -/
import Derived.Test.YtonnffilcmlodaaA2
namespace Go.Proofs.Ytonnffilcmlodaa
open Go.RowKit

set_option maxRecDepth 100000 in
set_option maxHeartbeats 400000 in
theorem toIntS_cap (A : Option Addr) (c : Nat) (zs : List Int) (w : World) (hr : Ints w w.heap.size A zs) (hl : zs.length ≤ 1000000000000) :
    Calls Try.prog 60 #[.slice A zs.length c] w fun e w' => ∃ A' c', e = .returned (.slice A' zs.length c') ∧ zs.length ≤ c' ∧ OwnInts w' w.heap.size w'.heap.size A' zs ∧ Below w.heap.size w w' := by
  obtain ⟨i0, hi0, hz0, hz1, hz2⟩ := info_parts Try.info3
  go_enter Try.func60, Try.ntmps60
  go_wp2_with (at_make; refine wpList_make_full _ rfl (.tmp 6) (.tmp 6) _ rfl w.heap.size 3 i0 (.int .i64 0) 1 Try.underlying28 hi0 hz0 hz1 _ _ _ _ _ rfl rfl rfl rfl (by rw [hz2]; omega) (by unfold maxLen; omega) (Nat.le_refl _) ?_)
  intro w1 hown hg
  have hb1 : Below w.heap.size w w1 := (Below.refl _ _).grown hg (Nat.le_refl _) (by simp)
  have hown' : w1.ownsRow w.heap.size 3 1 (.slice (some ⟨w.heap.size, 0, none⟩) zs.length zs.length) zs.length (((zs.take 0) ++ List.replicate (zs.length - 0) 0).map (Value.int .i64)) := by
    have h1 := hown
    have h2 : (madeCells #[Value.int .i64 0] zs.length).toList = ((zs.take 0) ++ List.replicate (zs.length - 0) 0).map (Value.int .i64) := by
      rw [toList_madeCells_one]
      simp
    rw [h2] at h1
    exact h1
  clear hown hg
  go_wp2
  go_loopw [4] (fun i wr => ∃ k : Nat, k ≤ zs.length ∧ i = .int .i64 k ∧ wr.ownsRow w.heap.size 3 1 (.slice (some ⟨w.heap.size, 0, none⟩) zs.length zs.length) zs.length (((zs.take k) ++ List.replicate (zs.length - k) 0).map (Value.int .i64)) ∧ Below w.heap.size w wr) (fun i _ => zs.length - (intOf i).toNat)
  case atStart => exact ⟨0, by omega, rfl, hown', hb1⟩
  case round =>
    obtain ⟨k, hk, rfl, hown, hbr⟩ := hrel
    clear hown' hb1
    by_cases hlt : k < zs.length
    · obtain ⟨b, o, rfl, hb, hc⟩ := (hr.below hbr).open (by simp; omega)
      have hcell := ints_at hc hlt
      clear hc
      have hat := hown.cellAt k (by omega)
      have hfr := hown.frozenAt k
      have hst := hown.stored k (.int .i64 zs[k])
      have hbr2 := hbr.setCell (p := ⟨w.heap.size, k, none⟩) (Nat.le_refl _) (.int .i64 zs[k])
      have HO := Lib.hid hst.1
      clear hst hown
      have hat2 : wr.cell? ⟨w.heap.size, k, none⟩ = some (.int .i64 0) := by
        rw [hat, List.getElem?_map, List.getElem?_append_right (by simp; omega)]
        simp [List.getElem?_replicate]
        omega
      clear hat
      go_wp2
      go_roundw
      case rel =>
        refine ⟨k + 1, by omega, by go_num, ?_, hbr2⟩
        rw [← fill_step 0 (Value.int .i64) zs k hlt]
        exact HO.out
      case measure => simp [intOf]; omega
    · have hk' : k = zs.length := by omega
      subst hk'
      simp only [Nat.sub_self, List.replicate_zero, List.append_nil, List.take_length] at hown
      go_wp2
      go_ret
      obtain ⟨A', c', hv, _, ho⟩ := own_of_row hown
      simp only [Value.slice.injEq] at hv
      obtain ⟨rfl, _, rfl⟩ := hv
      exact ⟨_, _, rfl, Nat.le_refl _, ho, hbr⟩

theorem toIntS_any (A : Option Addr) (c : Nat) (zs : List Int) (w : World) (hr : Ints w w.heap.size A zs) (hl : zs.length ≤ 1000000000000) :
    Calls Try.prog 60 #[.slice A zs.length c] w fun e w' => ∃ A' c', e = .returned (.slice A' zs.length c') ∧ OwnInts w' w.heap.size w'.heap.size A' zs ∧ Below w.heap.size w w' :=
  (toIntS_cap A c zs w hr hl).mono fun _ _ ⟨A', c', he, _, ho, hb⟩ => ⟨A', c', he, ho, hb⟩
end Go.Proofs.Ytonnffilcmlodaa
