/- Marks written into a result, and found again. No condition. -/
import Derived.Test.YtempfagjbpnlcaaA2
namespace Go.Proofs.Ytempfagjbpnlcaa
open Go.RowKit

def upFrom (k : Int) (n : Nat) : List Int := (List.range n).map fun (i : Nat) => k + (i : Int)
theorem upFrom_length (k : Int) (n : Nat) : (upFrom k n).length = n := by simp [upFrom]
theorem upFrom_get (k : Int) (n i : Nat) (h : i < n) : (upFrom k n)[i]'(by rw [upFrom_length]; exact h) = k + i := by simp [upFrom]

/-- One more mark. -/
theorem mark_step (k : Int) (zs : List Int) (j : Nat) (hj : j < zs.length) :
    ((upFrom k j ++ zs.drop j).map (Value.int .i64)).set j (Value.int .i64 (k + j)) = (upFrom k (j + 1) ++ zs.drop (j + 1)).map (Value.int .i64) := by
  apply List.ext_getElem?
  intro i
  rw [List.getElem?_set]
  by_cases hij : j = i
  · subst hij
    rw [if_pos rfl, if_pos (by simp [upFrom_length]; omega), List.getElem?_map, List.getElem?_append_left (by rw [upFrom_length]; omega)]
    simp [upFrom]
  · rw [if_neg hij, List.getElem?_map, List.getElem?_map]
    congr 1
    by_cases hi : i < j
    · rw [List.getElem?_append_left (by rw [upFrom_length]; omega), List.getElem?_append_left (by rw [upFrom_length]; omega)]
      simp only [upFrom, List.getElem?_map]
      rw [List.getElem?_eq_getElem (by simp; omega), List.getElem?_eq_getElem (by simp; omega)]
      simp
    · rw [List.getElem?_append_right (by rw [upFrom_length]; omega), List.getElem?_append_right (by rw [upFrom_length]; omega), upFrom_length, upFrom_length, List.getElem?_drop, List.getElem?_drop]
      congr 1
      omega

set_option maxRecDepth 100000 in
set_option maxHeartbeats 1000000 in
theorem markIntS_any (A : Option Addr) (c : Nat) (zs : List Int) (k : Int) (base B : Nat) (w : World) (ho : OwnInts w base B A zs) (hl : zs.length ≤ 1000000000) (hk0 : 0 ≤ k) (hk1 : k ≤ 1000000000) :
    Calls Try.prog 22 #[.slice A zs.length c, .int .i64 k] w fun e w' => e = .returned (.int .i64 (k + zs.length)) ∧ OwnInts w' base B A (upFrom k zs.length) ∧ Below base w w' := by
  by_cases h0 : zs.length = 0
  · have hz : zs = [] := List.eq_nil_of_length_eq_zero h0
    subst hz
    clear ho
    go_enter Try.func22, Try.ntmps22
    go_wp2
    go_rounds 1
    go_ret
    exact ⟨by simp, .inl (by simp [upFrom]), Below.refl _ _⟩
  · obtain ⟨b, o, rfl, hbb, hlt, hc, hf⟩ := ho.open' (by omega) (by simp; omega)
    have hst : OwnInts w base B (some ⟨b, o, none⟩) (upFrom k 0 ++ zs.drop 0) := by simpa [upFrom] using ho
    clear ho hc h0
    go_enter Try.func22, Try.ntmps22
    go_wp2
    go_loopw [1, 5] (fun m i wr => ∃ j : Nat, j ≤ zs.length ∧ i = .int .i64 j ∧ m = .int .i64 (k + j) ∧ OwnInts wr base B (some ⟨b, o, none⟩) (upFrom k j ++ zs.drop j) ∧ Below base w wr) (fun _ i _ => zs.length - (intOf i).toNat)
    case atStart => exact ⟨0, by omega, rfl, by simp, hst, Below.refl _ _⟩
    case round =>
      obtain ⟨j, hj, rfl, rfl, ho, hbr⟩ := hrel
      clear hst hf
      by_cases hlt' : j < zs.length
      · obtain ⟨b', o', e', _, _, hc, hf⟩ := ho.open' (by omega) (by simp [upFrom_length]; omega)
        simp only [Option.some.injEq, Addr.mk.injEq, and_true] at e'
        obtain ⟨rfl, rfl⟩ := e'
        have hcell := hc j (.int .i64 zs[j]) (by
          rw [List.getElem?_map, List.getElem?_append_right (by rw [upFrom_length]; omega), upFrom_length, List.getElem?_drop, Nat.sub_self, Nat.add_zero, List.getElem?_eq_getElem hlt']
          rfl)
        have hfr := hf (o + j)
        have hset := ho.set j (.int .i64 (k + j))
        rw [mark_step k zs j hlt'] at hset
        have HSET := Lib.hid hset
        have hbs := hbr.setCell (p := ⟨b, o + j, none⟩) (by simp; omega) (.int .i64 (k + j))
        clear hc hf hset ho hbr
        go_wp2
        go_roundw
        case rel => exact ⟨j + 1, by omega, by go_num, by go_num, HSET.out, hbs⟩
        case measure => simp [intOf]; omega
      · have hj' : j = zs.length := by omega
        subst hj'
        go_wp2
        go_ret
        exact ⟨rfl, by simpa using ho, hbr⟩

set_option maxRecDepth 100000 in
set_option maxHeartbeats 1000000 in
theorem heldIntS_any (A : Option Addr) (c : Nat) (n : Nat) (k : Int) (w : World) (ho : Ints w w.heap.size A (upFrom k n)) (hl : n ≤ 1000000000) (hk0 : 0 ≤ k) (hk1 : k ≤ 1000000000) :
    Calls Try.prog 23 #[.slice A n c, .int .i64 k] w fun e w' => e = .returned (.int .i64 (k + n)) ∧ w = w' := by
  go_enter Try.func23, Try.ntmps23
  go_wp2
  go_loop [1, 5] (fun m i => ∃ j : Nat, j ≤ n ∧ i = .int .i64 j ∧ m = .int .i64 (k + j)) (fun _ i => n - (intOf i).toNat)
  case atStart => exact ⟨0, by omega, rfl, by simp⟩
  case round =>
    obtain ⟨j, hj, rfl, rfl⟩ := hrel
    by_cases hlt : j < n
    · obtain ⟨b, o, rfl, hb, hc⟩ := ho.open (by simp [upFrom_length]; omega)
      have hcell := ints_at hc (show j < (upFrom k n).length by rw [upFrom_length]; exact hlt)
      rw [upFrom_get k n j hlt] at hcell
      clear hc ho
      go_wp2
      go_round
      case rel => exact ⟨j + 1, by omega, by go_num, by go_num⟩
      case measure => simp [intOf]; omega
    · have hj' : j = n := by omega
      subst hj'
      go_wp2
      go_ret
      exact ⟨rfl, rfl⟩
end Go.Proofs.Ytempfagjbpnlcaa
