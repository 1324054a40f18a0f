/- Marks of texts: laws.markText. No condition. -/
import Derived.Test.YtempfagjbpnlcaaQ1
import Derived.Test.YtempfagjbpnlcaaC1
import Derived.WalkSpells
import Derived.Deep.RegionHeld3
namespace Go.Proofs.Ytempfagjbpnlcaa
open Go.RowKit

/-- The digits of a number. -/
def dgS (k : Nat) : ByteArray := if _h : k = 0 then ByteArray.empty else dgS (k / 10) ++ strOfNums [48 + ((k % 10 : Nat) : Int)]
theorem dgS_zero : dgS 0 = ByteArray.empty := by rw [dgS]; simp
theorem dgS_pos {k : Nat} (h : 0 < k) : dgS k = dgS (k / 10) ++ strOfNums [48 + ((k % 10 : Nat) : Int)] := by rw [dgS]; rw [dif_neg (by omega)]
def mkT (k : Nat) : ByteArray := ⟨#[109]⟩ ++ dgS k

set_option maxRecDepth 100000 in
set_option maxHeartbeats 1000000 in
theorem markText_any (k : Nat) (w : World) (hk : 0 < k) (hk9 : k ≤ 100000000) :
    Calls Try.prog 43 #[.int .i64 k] w fun e w' => e = .returned (.string (mkT k)) ∧ Below w.heap.size w w' := by
  have HK := Lib.hid (show dgS k = dgS k ++ ByteArray.empty by simp)
  have h9 : k < 10 ^ 9 := by omega
  have H9 := Lib.hid h9
  clear h9
  go_enter Try.func43, Try.ntmps43
  go_wp2
  go_loopw [0, 3] (fun m v wr => ∃ (c : Nat) (o : ByteArray) (j : Nat), m = .int .i64 c ∧ v = .string o ∧ c ≤ 100000000 ∧ Hid (c < 10 ^ j) ∧ o.size + j ≤ 9 ∧ Hid (dgS k = dgS c ++ o) ∧ Below w.heap.size w wr) (fun m _ _ => (intOf m).toNat)
  case atStart => exact ⟨k, ByteArray.empty, 9, rfl, rfl, hk9, H9, by decide, HK, Below.refl _ _⟩
  case round =>
    obtain ⟨c, o, j, rfl, rfl, hc9, HJ, hoj, HD, hbr⟩ := hrel
    clear HK H9
    have HBR := Lib.hid hbr
    have hbz := hbr.size
    clear hbr
    by_cases hc0 : 0 < c
    · obtain ⟨d, hd⟩ : ∃ d, c % 10 = d := ⟨_, rfl⟩
      obtain ⟨q, hq⟩ : ∃ q, c / 10 = q := ⟨_, rfl⟩
      have hd9 : d ≤ 9 := by omega
      have hqc : q < c := by omega
      have hm1 : (c : Int) % 10 = (d : Int) := by rw [← hd]; push_cast; rfl
      have hm2 : (c : Int).tmod 10 = (d : Int) := by rw [← hd]; rfl
      have hq1 : (c : Int) / 10 = (q : Int) := by rw [← hq]; push_cast; rfl
      have hq2 : (c : Int).tdiv 10 = (q : Int) := by rw [← hq]; rfl
      have hu8 : IntKind.u8.wrap (48 + (d : Int)) = 48 + (d : Int) := IntWalk.u8_in _ (by omega)
      have HDG := Lib.hid (show dgS c = dgS q ++ strOfNums [48 + (d : Int)] by rw [dgS_pos hc0, hq, hd])
      have HJ2 := Lib.hid (show ∃ j', j = j' + 1 ∧ q < 10 ^ j' by
        cases j with
        | zero => have := HJ.out; simp at this; omega
        | succ j' => exact ⟨j', rfl, by have := HJ.out; rw [Nat.pow_succ] at this; omega⟩)
      have hconv := run_convert_bytes_arg (P := Try.prog) (w := wr.alloc (.cells #[.int .u8 (48 + (d : Int))] 5)) 22 5 Try.underlying22 Try.underlying5 wr.heap.size 0 1 1 [48 + (d : Int)] rfl (fun i hi => by
        obtain rfl : i = 0 := by omega
        rw [World.cell?_alloc_at _ _ _ _ rfl]; rfl) 9 Try.underlying9
      obtain ⟨x, hx⟩ : ∃ x, strOfNums [48 + (d : Int)] = x := ⟨_, rfl⟩
      have hxs : x.size = 1 := by rw [← hx]; rfl
      rw [hx] at hconv
      have HX := Lib.hid (And.intro hx hxs)
      have hx1 : x.size ≤ 1 := by omega
      have hc0I : (0 : Int) < (c : Int) := by omega
      clear hd hq hx hxs
      go_wp2
      go_roundw
      case rel =>
        obtain ⟨j', hj1, hj2⟩ := HJ2.out
        refine ⟨q, x ++ o, j', rfl, rfl, by omega, Lib.hid hj2, ?_, Lib.hid ?_, HBR.out.alloc hbz _⟩
        · rw [ByteArray.size_append, HX.out.2]; omega
        · rw [HD.out, HDG.out, HX.out.1, ByteArray.append_assoc]
      case measure => simp [intOf]; omega
    · have hc : c = 0 := by omega
      subst hc
      have HF := Lib.hid (show mkT k = ⟨#[109]⟩ ++ o by rw [mkT, HD.out, dgS_zero]; simp)
      have hos : o.size ≤ 9 := by omega
      clear hc0
      go_wp2
      go_ret
      exact ⟨by rw [HF.out]; rfl, HBR.out⟩

theorem grownB {w w' : World} (h : Below w.heap.size w w') (row : Option Nat) : w.grownBy w' row := ⟨h.os, h.tape, h.output, h.size, fun i hi _ => h.block i hi⟩
/-- The marks of n routes. -/
def mkR (k n : Nat) : List (ByteArray × Int) := (List.range n).map fun i => (mkT (k + 2 * i), ((k + 2 * i + 1 : Nat) : Int))
theorem mkR_length (k n : Nat) : (mkR k n).length = n := by simp [mkR]
theorem mkR_get (k n i : Nat) (h : i < n) : (mkR k n)[i]'(by rw [mkR_length]; exact h) = (mkT (k + 2 * i), ((k + 2 * i + 1 : Nat) : Int)) := by simp [mkR]
theorem mkR_succ (k j : Nat) : mkR k (j + 1) = mkR k j ++ [(mkT (k + 2 * j), ((k + 2 * j + 1 : Nat) : Int))] := by simp [mkR, List.range_succ]

theorem markQ_step (rs : List (ByteArray × Int)) (k j : Nat) (hj : j < rs.length) :
    ((flat (mkR k j ++ rs.drop j)).set (j * 2) (.string (mkT (k + 2 * j)))).set (j * 2 + 1) (.int .i64 ((k + 2 * j + 1 : Nat) : Int)) = flat (mkR k (j + 1) ++ rs.drop (j + 1)) := by
  have hl : (flat (mkR k j)).length = j * 2 := by rw [flat_length, mkR_length]; omega
  rw [List.drop_eq_getElem_cons hj, mkR_succ, flat_append, flat_cons, List.append_assoc, List.singleton_append, flat_append, flat_cons]
  rw [List.set_append_right _ _ (by omega), List.set_append_right _ _ (by omega), hl]
  simp
end Go.Proofs.Ytempfagjbpnlcaa
