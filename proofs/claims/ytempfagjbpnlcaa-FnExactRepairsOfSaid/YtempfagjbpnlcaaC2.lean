/- Texts that are digits, and the check at their end. No condition. -/
import Derived.Test.YtempfagjbpnlcaaC1
import Derived.Laws.RangeAny
namespace Go.Proofs.Ytempfagjbpnlcaa
open Go.RowKit

def isDig (b : UInt8) : Bool := decide (48 ≤ b.toNat ∧ b.toNat ≤ 57)
def onlyD (l : List UInt8) : Bool := l.all isDig

theorem iter_below (w : World) (s : ByteArray) (p : Nat) : Below w.heap.size w (w.iter s p) := (Below.refl _ _).alloc (Nat.le_refl _) _

theorem byte_get (s : ByteArray) (k : Nat) (h : k < s.size) : s.data.toList[k]? = some (s[k]'h) := by
  have : k < s.data.toList.length := by rw [Array.length_toList]; exact h
  rw [List.getElem?_eq_getElem this]
  rfl

set_option maxRecDepth 100000 in
set_option maxHeartbeats 1000000 in
theorem onlyDigits_any (s : ByteArray) (w : World) (hs : s.size ≤ 1000000) :
    Calls Try.prog 57 #[.string s] w fun e w' => e = .returned (.bool (onlyD s.data.toList)) ∧ Below w.heap.size w w' := by
  go_enter Try.func57, Try.ntmps57
  go_wp2
  go_loopw [] (fun wr => ∃ pos : Nat, pos ≤ s.size ∧ wr = w.iter s pos ∧ (s.data.toList.take pos).all isDig = true) (fun wr => s.size - wr.iterPos w.heap.size)
  case atStart => exact ⟨0, by omega, rfl, by simp⟩
  case round =>
    obtain ⟨pos, hp, rfl, hall⟩ := hrel
    have HA := Lib.hid hall
    clear hall
    by_cases hlt : pos < s.size
    · by_cases hd : 48 ≤ (s[pos]'hlt).toNat ∧ (s[pos]'hlt).toNat ≤ 57
      · have hn := run_next_ascii (P := Try.prog) w s pos 0 hlt (by omega)
        obtain ⟨x, hx⟩ : ∃ x, (s[pos]'hlt).toNat = x := ⟨_, rfl⟩
        rw [hx] at hd hn
        have HX := Lib.hid hx
        clear hx
        have hd1 : (48 : Int) ≤ (x : Int) := by omega
        have hd2 : (x : Int) ≤ 57 := by omega
        go_wp2
        go_roundw
        case rel =>
          refine ⟨pos + 1, by omega, rfl, ?_⟩
          rw [List.take_add_one, byte_get s pos hlt, List.all_append, HA.out]
          simp [isDig, HX.out, hd]
        case measure => simp; omega
      · have hn := run_next_any (P := Try.prog) w s pos 0 hlt
        have hbad : ¬ (48 ≤ (Utf8.decode s pos).1 ∧ (Utf8.decode s pos).1 ≤ 57) := by
          by_cases ha : (s[pos]'hlt).toNat < 128
          · rw [decode_ascii s pos hlt ha]; exact hd
          · have := (decode_high s pos hlt (by omega)).1; omega
        obtain ⟨x, hx⟩ : ∃ x, (Utf8.decode s pos).1 = x := ⟨_, rfl⟩
        rw [hx] at hbad hn
        have hF : onlyD s.data.toList = false := by
          simp only [onlyD, List.all_eq_false]
          exact ⟨s[pos]'hlt, List.mem_of_getElem? (byte_get s pos hlt), by simp only [isDig, decide_eq_true_eq]; exact hd⟩
        have HF := Lib.hid hF
        have hq : (x : Int) < 48 ∨ 57 < (x : Int) := by omega
        clear hd hx hbad hF
        rcases hq with hq | hq
        · go_wp2
          go_ret
          exact ⟨ret_bool HF.out.symm, iter_below _ _ _⟩
        · go_wp2
          go_ret
          exact ⟨ret_bool HF.out.symm, iter_below _ _ _⟩
    · have hn := run_next_end (P := Try.prog) w s pos 0 hlt
      have hT : onlyD s.data.toList = true := by
        have := HA.out
        rw [List.take_of_length_le (by rw [Array.length_toList]; exact Nat.le_of_not_lt hlt)] at this
        exact this
      have HT := Lib.hid hT
      clear hT
      go_wp2
      go_ret
      exact ⟨ret_bool HT.out.symm, iter_below _ _ _⟩
end Go.Proofs.Ytempfagjbpnlcaa
