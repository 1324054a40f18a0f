/- Letters sent on: ForwardOf on both sides. No condition. -/
import Derived.Test.YtldbefmiabgkhabT7
import Derived.Test.YtldbefmiabgkhabT3
import Derived.Test.YtldbefmiabgkhabT5
import Derived.Test.YtldbefmiabgkhabShelf
namespace Go.Proofs.Ytldbefmiabgkhab
open Go.RowKit

theorem containsI_any (A : Option Addr) (c : Nat) (zs : List Int) (x : Int) (B : Nat) (w : World) (hr : Ints w B A zs) (hl : zs.length ≤ 1000000000) :
    Calls Try.prog 35 #[.slice A zs.length c, .int .i64 x] w fun e w' => e = .returned (.bool (decide (x ∈ zs))) ∧ w = w' := by
  by_cases h0 : zs = []
  · subst h0
    refine (Try.slices_Contains_int_empty A c x w).mono ?_
    rintro e w' ⟨rfl, rfl⟩
    exact ⟨by simp, rfl⟩
  · obtain ⟨b, o, rfl, hb, hc⟩ := hr.open (by simp; exact List.length_pos_iff.2 h0)
    refine (Try.slices_Contains_int b o zs.length c zs x w (by omega) (by omega) (fun j hj => by rw [getD_get hj]; exact ints_at hc hj)).mono ?_
    rintro e w' ⟨rfl, rfl⟩
    refine ⟨ret_bool ?_, rfl⟩
    rw [List.take_length, List.contains_eq_mem]
theorem indexI_at (A : Option Addr) (c : Nat) (zs : List Int) (x : Int) (B : Nat) (w : World) (hr : Ints w B A zs) (hl : zs.length ≤ 1000000000) {k : Nat} (hk : k < zs.length) (hx : zs.getD k 0 = x) (hn : ∀ j, j < k → zs.getD j 0 ≠ x) :
    Calls Try.prog 43 #[.slice A zs.length c, .int .i64 x] w fun e w' => e = .returned (.int .i64 (k : Int)) ∧ w = w' := by
  obtain ⟨b, o, rfl, hb, hc⟩ := hr.open (by simp; omega)
  refine (Try.slices_Index_int b o zs.length c zs x w (by omega) (by omega) (fun j hj => by rw [getD_get hj]; exact ints_at hc hj)).mono ?_
  rintro e w' ⟨rfl, rfl⟩
  refine ⟨ret_int ?_, rfl⟩
  rw [List.take_length]
  unfold Lib.idxOf
  rw [Lib.idxFrom_hit x zs k 0 hk hx hn, Nat.zero_add]

set_option maxRecDepth 100000 in
set_option maxHeartbeats 1000000 in
theorem place_at (A : Option Addr) (c : Nat) (zs : List Int) (x : Int) (w : World) (hr : Ints w w.heap.size A zs) (hl : zs.length ≤ 1000000000) (K : Nat) (hK : K < zs.length) (hx : zs.getD K 0 = x) (hn : ∀ j, j < K → zs.getD j 0 ≠ x) :
    Calls Try.prog 40 #[.slice A zs.length c, .int .i64 x] w fun e w' => e = .returned (.int .i64 (K : Int)) ∧ w = w' := by
  have HX := Lib.hid hx
  have HN := Lib.hid hn
  have HK := Lib.hid hK
  clear hx hn hK
  go_enter Try.func40, Try.ntmps40
  go_wp2
  go_loop [5] (fun i => ∃ k : Nat, k ≤ K ∧ i = .int .i64 k) (fun i => zs.length - (intOf i).toNat)
  case atStart => exact ⟨0, by omega, rfl⟩
  case round =>
    obtain ⟨k, hk, rfl⟩ := hrel
    have hlt : k < zs.length := by have := HK.out; omega
    obtain ⟨b, o, rfl, hb, hc⟩ := hr.open (by simp; omega)
    have hcell := ints_at hc hlt
    have HZ := Lib.hid (getD_get hlt)
    have hkI : (k : Int) < zs.length := by omega
    obtain ⟨z, hz⟩ : ∃ z, zs[k] = z := ⟨_, rfl⟩
    rw [hz] at hcell HZ
    clear hc hz
    by_cases hkk : k = K
    · have ht : (z == x) = true := by rw [← HZ.out, hkk, HX.out]; simp
      have HF := Lib.hid (show (k : Int) = (K : Int) by rw [hkk])
      clear hkk
      go_wp2
      go_ret
      exact ⟨ret_int HF.out, rfl⟩
    · have ht : (z == x) = false := by have := HN.out k (by omega); rw [HZ.out] at this; simpa using this
      go_wp2
      go_round
      case rel => exact ⟨k + 1, by omega, by go_num⟩
      case measure => simp [intOf]; omega
set_option maxRecDepth 100000 in
set_option maxHeartbeats 1000000 in
theorem place_no (A : Option Addr) (c : Nat) (zs : List Int) (x : Int) (w : World) (hr : Ints w w.heap.size A zs) (hl : zs.length ≤ 1000000000) (hx : x ∉ zs) :
    Calls Try.prog 40 #[.slice A zs.length c, .int .i64 x] w fun e w' => e = .returned (.int .i64 (-1)) ∧ w = w' := by
  have HX := Lib.hid hx
  clear hx
  go_enter Try.func40, Try.ntmps40
  go_wp2
  go_loop [5] (fun i => ∃ k : Nat, k ≤ zs.length ∧ i = .int .i64 k) (fun i => zs.length - (intOf i).toNat)
  case atStart => exact ⟨0, by omega, rfl⟩
  case round =>
    obtain ⟨k, hk, rfl⟩ := hrel
    by_cases hlt : k < zs.length
    · obtain ⟨b, o, rfl, hb, hc⟩ := hr.open (by simp; omega)
      have hcell := ints_at hc hlt
      have HM := Lib.hid (List.getElem_mem hlt)
      have hkI : (k : Int) < zs.length := by omega
      obtain ⟨z, hz⟩ : ∃ z, zs[k] = z := ⟨_, rfl⟩
      rw [hz] at hcell HM
      have ht : (z == x) = false := by
        rw [beq_eq_false_iff_ne]; exact fun e => HX.out (by rw [← e]; exact HM.out)
      clear hc hz
      go_wp2
      go_round
      case rel => exact ⟨k + 1, by omega, by go_num⟩
      case measure => simp [intOf]; omega
    · go_wp2
      go_ret
      exact ⟨rfl, rfl⟩

/-- What is told of a letter that is sent on. -/
def FwdR (zs : List Int) (i a b : Int) : Prop := (fwB zs i = false ∧ a = -1 ∧ b = -1) ∨ (fwB zs i = true ∧ ∃ L x, Fwd zs i L x ∧ a = (x : Int) ∧ b = fwC L x)
theorem exists_fwdR (zs : List Int) (i : Int) : ∃ a b, FwdR zs i a b := by
  by_cases h : fwB zs i = true
  · obtain ⟨L, x, hf⟩ := fw_exists h
    exact ⟨x, fwC L x, .inr ⟨h, L, x, hf, rfl, rfl⟩⟩
  · exact ⟨-1, -1, .inl ⟨by simpa using h, rfl, rfl⟩⟩
theorem fwB_bel (zs : List Int) (i : Int) : fwB zs i = (belB zs.length zs && (decide (zs.length ≤ 9) && okF zs.length i)) := rfl
theorem fwB_long {zs : List Int} {i : Int} (h : ¬ zs.length ≤ 9) : fwB zs i = false := by rw [fwB, decide_eq_false h, Bool.false_and, Bool.and_false]
theorem fwB_cell {zs : List Int} {i : Int} {k : Nat} (hk : k < zs.length) (h : inR zs[k] 0 ((zs.length : Int) - 1) = false) : fwB zs i = false := by
  rw [fwB, all_no hk (p := okF zs.length) h, Bool.false_and]
theorem orbL_succ (zs : List Int) (i : Int) (k : Nat) : orbL zs i (k + 1) = orbL zs i k ++ [orb zs i k] := tab_succ _ _
theorem orbL_len (zs : List Int) (i : Int) (k : Nat) : (orbL zs i k).length = k := tab_length _ _
theorem orbL_get {zs : List Int} {i : Int} {k j : Nat} (h : j < k) : (orbL zs i k).getD j 0 = orb zs i j := by
  rw [getD_get (by rw [orbL_len]; exact h)]; exact tab_get h
theorem Fwd.hit {zs : List Int} {i : Int} {L x : Nat} (h : Fwd zs i L x) : ∀ j, j < x → (orbL zs i L).getD j 0 ≠ orb zs i L := fun j hj e => by
  have hl := h.L1
  rw [orbL_get (by omega), h.eq] at e
  have := h.inj (by omega) (by omega) e; omega
end Go.Proofs.Ytldbefmiabgkhab
