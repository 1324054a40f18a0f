/- laws.isIn, laws.different. No condition. -/
import Derived.Test.YtldbefmiabgkhabEq
import Derived.Test.YtldbefmiabgkhabEx
import Derived.Test.YtldbefmiabgkhabT
namespace Go.Proofs.Ytldbefmiabgkhab
open Go.RowKit

set_option maxRecDepth 100000 in
theorem isIn_any (A : Option Addr) (c : Nat) (zs : List Int) (x : Int) (w : World) (hr : Ints w w.heap.size A zs) (hl : zs.length ≤ 1000000000) :
    Calls Try.prog 22 #[.slice A zs.length c, .int .i64 x] w fun e w' => e = .returned (.bool (decide (x ∈ zs))) ∧ w = w' := by
  go_enter Try.func22, Try.ntmps22
  go_wp2
  go_loop [5] (fun i => ∃ k : Nat, k ≤ zs.length ∧ i = .int .i64 k ∧ Hid (¬ x ∈ zs.take k)) (fun i => zs.length - (intOf i).toNat)
  case atStart => exact ⟨0, by omega, rfl, Lib.hid (by simp)⟩
  case round =>
    obtain ⟨k, hk, rfl, HN⟩ := hrel
    by_cases hlt : k < zs.length
    · obtain ⟨b, o, rfl, hb, hc⟩ := hr.open (by simp; omega)
      have hcell := ints_at hc hlt
      have HT := Lib.hid (List.take_succ_eq_append_getElem hlt)
      have HM := Lib.hid (List.getElem_mem hlt)
      obtain ⟨z, hz⟩ : ∃ z, zs[k] = z := ⟨_, rfl⟩
      rw [hz] at hcell
      have HZ := Lib.hid hz
      clear hc hz
      by_cases hx : z = x
      · have he : (z == x) = true := beq_iff_eq.2 hx
        have HF := Lib.hid (show decide (x ∈ zs) = true from decide_eq_true (by rw [← hx, ← HZ.out]; exact HM.out))
        clear hx
        go_wp2
        go_ret
        exact ⟨ret_bool HF.out.symm, rfl⟩
      · have he : (z == x) = false := beq_eq_false_iff_ne.2 hx
        have HX := Lib.hid hx
        clear hx
        go_wp2
        go_round
        case rel =>
          refine ⟨k + 1, by omega, by go_num, Lib.hid ?_⟩
          rw [HT.out, HZ.out, List.mem_append, List.mem_singleton]
          rintro (h | h)
          · exact HN.out h
          · exact HX.out h.symm
        case measure => simp [intOf]; omega
    · have hk' : k = zs.length := by omega
      subst hk'
      go_wp2
      go_ret
      exact ⟨ret_bool (by have := HN.out; rw [List.take_length] at this; exact (decide_eq_false this).symm), rfl⟩

theorem slice_uptoI (b o n c j : Nat) (h : j ≤ c) (W : World) :
    (Instr.slice 24 (.slice (some ⟨b, o, none⟩) n c) none (some (.int .i64 (j : Int))) none).run Try.prog W = .ok (.slice (some ⟨b, o, none⟩) j c) W := by
  have h1 : (0 : Int) ≤ (j : Int) := by omega
  have h2 : (j : Int) ≤ (c : Int) := by omega
  go_simp

set_option maxRecDepth 100000 in
set_option maxHeartbeats 1000000 in
theorem different_any (A : Option Addr) (c : Nat) (zs : List Int) (w : World) (hr : Ints w w.heap.size A zs) (hc : zs.length ≤ c) (hl : zs.length ≤ 1000000) (hnd : zs.Nodup) :
    Calls Try.prog 23 #[.slice A zs.length c] w fun e w' => e = .returned (.int .i64 zs.length) ∧ ∃ n, w' = w.drewN n := by
  have HND := Lib.hid hnd
  clear hnd
  go_enter Try.func23, Try.ntmps23
  go_wp2
  go_loopw [3, 4] (fun m i wr => ∃ k : Nat, k ≤ zs.length ∧ i = .int .i64 k ∧ m = .int .i64 k ∧ ∃ n, wr = w.drewN n) (fun _ i _ => zs.length - (intOf i).toNat)
  case atStart => exact ⟨0, by omega, rfl, rfl, 0, rfl⟩
  case round =>
    obtain ⟨k, hk, rfl, rfl, hwr⟩ := hrel
    have HWR := Lib.hid hwr
    have hbw : Below w.heap.size w wr := by obtain ⟨n, rfl⟩ := hwr; exact below_drewN (Below.refl _ _) n
    have hrr := hr.below hbw
    have hz := hbw.size
    obtain ⟨W, hW⟩ : ∃ W : World, W = wr := ⟨_, rfl⟩
    subst hW
    clear hwr
    by_cases hlt : k < zs.length
    · obtain ⟨b, o, rfl, hb, hcc⟩ := hrr.open (by simp; omega)
      have hcell := ints_at hcc hlt
      have hno : ¬ zs[k] ∈ zs.take k := fun hm => by
        obtain ⟨i, hi, he⟩ := List.getElem_of_mem hm
        rw [List.length_take] at hi
        rw [List.getElem_take] at he
        exact List.pairwise_iff_getElem.1 HND.out i k (by omega) hlt (by omega) he
      obtain ⟨z, hze⟩ : ∃ z, zs[k] = z := ⟨_, rfl⟩
      rw [hze] at hcell hno
      have hsl := slice_uptoI b o zs.length c k (by omega)
      have hrow : Ints W W.heap.size (some ⟨b, o, none⟩) (zs.take k) := by
        have := (hrr.more hz).take k
        rwa [← List.map_take] at this
      have hml : (zs.take k).length = k := by rw [List.length_take]; omega
      have hq := fun m => isIn_any (some ⟨b, o, none⟩) c (zs.take k) z (W.drewN m) (hrow.below (below_drewN (Below.refl _ _) m)) (by omega)
      rw [hml, decide_eq_false hno] at hq
      have HQ := Lib.hid hq
      have hk0 : (0 : Int) ≤ (k : Int) := by omega
      have hkI : (k : Int) < zs.length := by omega
      clear hcc hno hze hq hrow hml
      go_wp2
      go_quiet ((go_at_call 22; exact Calls.quiet_of ((HQ.out _).mono fun _ _ ⟨h1, h2⟩ => ⟨h1, 0, h2.symm⟩)))
      go_simp
      clear hsl
      go_wp2
      go_roundw
      case rel => exact ⟨k + 1, by omega, by go_num, by go_num, by obtain ⟨n, hn⟩ := HWR.out; rw [hn]; exact ⟨_, World.drewN_drewN ..⟩⟩
      case measure => simp [intOf]; omega
    · have hk' : k = zs.length := by omega
      subst hk'
      go_wp2
      go_ret
      exact ⟨rfl, HWR.out⟩
end Go.Proofs.Ytldbefmiabgkhab
