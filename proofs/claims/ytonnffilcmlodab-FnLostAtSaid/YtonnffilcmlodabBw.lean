/- A list the other way round. No condition. -/
import Derived.Test.YtonnffilcmlodabVy
import Derived.Test.YtonnffilcmlodabA1
import Derived.Test.YtonnffilcmlodabRows
namespace Go.Proofs.Ytonnffilcmlodab
open Go.RowKit


set_option maxRecDepth 100000 in
theorem backwards_any (A : Option Addr) (c : Nat) (zs : List Int) (w : World) (hr : Ints w w.heap.size A zs) (hl : zs.length ≤ 1000) :
    Calls Try.prog 11 #[.slice A zs.length c] w fun e w' => ∃ A' c', e = .returned (.slice A' zs.length c') ∧ zs.length ≤ c' ∧ OwnInts w' w.heap.size w'.heap.size A' zs.reverse ∧ Below w.heap.size w w' := by
  obtain ⟨i0, hi0, hz0, hz1, hz2⟩ := info_parts Try.info3
  have hstart : (w.alloc (.cells #[] 3)).ownsRow w.heap.size 3 1 (.slice (some ⟨w.heap.size, 0, none⟩) 0 0) 0 [] := World.ownsRow_lit w #[] 0 (Nat.le_refl _) (by simp [maxLen]) rfl
  have hb0 : Below w.heap.size w (w.alloc (.cells #[] 3)) := (Below.refl _ _).alloc (Nat.le_refl _) _
  go_enter Try.func11, Try.ntmps11
  go_wp2
  go_loopw [3, 4] (fun v i wr => ∃ (k : Nat) (A : Option Addr) (c : Nat), k ≤ zs.length ∧ i = .int .i64 ((zs.length : Int) - 1 - k) ∧ v = .slice A k c ∧ wr.ownsRow w.heap.size 3 1 (.slice A k c) k ((zs.reverse.take k).map (Value.int .i64)) ∧ Below w.heap.size w wr) (fun _ i _ => (intOf i + 1).toNat)
  case atStart => exact ⟨0, _, _, by omega, by go_num, rfl, hstart, hb0⟩
  case round =>
    obtain ⟨k, A1, c1, hk, rfl, rfl, hown, hbr⟩ := hrel
    clear hstart hb0
    by_cases hlt : k < zs.length
    · obtain ⟨b, o, rfl, hb, hc⟩ := (hr.below hbr).open (by simp; omega)
      have hcell := ints_at hc (show zs.length - 1 - k < zs.length by omega)
      obtain ⟨d, hd⟩ : ∃ d, zs.length - 1 - k = d := ⟨_, rfl⟩
      have hx : zs.reverse[k]'(by simp; omega) = zs[zs.length - 1 - k] := by rw [List.getElem_reverse]
      obtain ⟨x, hxe⟩ : ∃ x, zs[zs.length - 1 - k] = x := ⟨_, rfl⟩
      rw [hxe] at hcell hx
      rw [hd] at hcell
      have hidx : (zs.length : Int) - 1 - (k : Int) = (d : Int) := by omega
      rw [hidx]
      have hdl : d < zs.length := by omega
      have HX := Lib.hid hx
      have HD := Lib.hid hidx
      clear hc hx hxe hd hidx
      go_wp2_with (at_builtin; refine wpList_push rfl (.tmp 13) (.tmp 18) 23 rfl i0 (.int .i64 0) 8 Try.underlying23 hi0 hz0 hz1 hz2 rfl (by decide) _ _ rfl hown [.int .i64 x] rfl rfl (by simp [Value.oneCell']) (by omega) (by omega) hbr.size ?_)
      intro A' c' w2 hown2 hg2
      have hbr2 := hbr.grown hg2 hbr.size (fun i hi => (hown.lt _ hi).1)
      clear hown hbr hg2 hcell
      go_wp2
      go_roundw
      case rel =>
        refine ⟨k + 1, A', c', by omega, by have := HD.out; exact congrArg (Value.int .i64) (by omega), rfl, ?_, hbr2⟩
        rw [List.take_succ_eq_append_getElem (by simp; omega), HX.out]
        simpa using hown2
      case measure => simp [intOf]
    · have hk' : k = zs.length := by omega
      subst hk'
      go_wp2
      go_ret
      have hcap := own_cap hown
      rw [List.take_of_length_le (by simp)] at hown
      obtain ⟨A1, c1, hv, _, ho⟩ := own_of_row hown
      simp only [Value.slice.injEq] at hv
      obtain ⟨rfl, _, rfl⟩ := hv
      exact ⟨_, _, rfl, hcap, ho, hbr⟩
end Go.Proofs.Ytonnffilcmlodab
