/- Codes are read: contracts of spec.ReadCode. No condition. -/
import Derived.Test.YtempfagjbpnlcaaC2
namespace Go.Proofs.Ytempfagjbpnlcaa
open Go.RowKit

def digs (l : List UInt8) : List Int := (l.take 4).map fun b => (b.toNat : Int) - 48
def readOk (l : List UInt8) : Bool := decide (l.length = 6) && validD (digs l) && decide (l = codeL (digs l) (checkF (digs l)))
def readV (l : List UInt8) : List Int := if readOk l then digs l else []
def readTwo (w0 : World) (l : List UInt8) (e : Ending) (w' : World) : Prop :=
  ∃ A c, e = .returned (.tuple #[.slice A (readV l).length c, .bool (readOk l)]) ∧ OwnInts w' w0.heap.size w'.heap.size A (readV l) ∧ Below w0.heap.size w0 w'

theorem readOk_yes {l : List UInt8} (h : readOk l = true) : readV l = digs l := by simp [readV, h]
theorem readOk_no {l : List UInt8} (h : readOk l = false) : readV l = [] := by simp [readV, h]

def readOne (w0 : World) (l : List UInt8) (e : Ending) (w' : World) : Prop :=
  ∃ A c, e = .returned (.tuple #[.slice A (digs l).length c, .bool (readOk l)]) ∧ OwnInts w' w0.heap.size w'.heap.size A (digs l) ∧ Below w0.heap.size w0 w'

set_option maxRecDepth 100000 in
set_option maxHeartbeats 2000000 in
theorem specReadCode_six (s : ByteArray) (w : World) (hs : s.size = 6) :
    Calls Try.prog 36 #[.string s] w (readOne w s.data.toList) := by
  obtain ⟨i0, hi0, hz0, hz1, hz2⟩ := info_parts Try.info3
  have hstart : (w.alloc (.cells #[] 3)).ownsRow w.heap.size 3 1 (.slice (some ⟨w.heap.size, 0, none⟩) 0 0) 0 [] := World.ownsRow_lit w #[] 0 (Nat.le_refl _) (by simp [maxLen]) rfl
  have hb0 : Below w.heap.size w (w.alloc (.cells #[] 3)) := (Below.refl _ _).alloc (Nat.le_refl _) _
  have HS := Lib.hid hs
  have hne : ((s.size : Int) != 6) = false := by rw [hs]; rfl
  have h6 : 6 ≤ s.size := by omega
  have hlen : s.data.toList.length = 6 := by rw [Array.length_toList]; exact hs
  have HLEN := Lib.hid hlen
  clear hs hlen
  go_enter Try.func36, Try.ntmps36
  go_wp2
  go_loopw [4, 5] (fun v i wr => ∃ (k : Nat) (A : Option Addr) (c : Nat), k ≤ 4 ∧ i = .int .i64 k ∧ v = .slice A k c ∧ wr.ownsRow w.heap.size 3 1 (.slice A k c) k (((s.data.toList.take k).map fun b => (b.toNat : Int) - 48).map (Value.int .i64)) ∧ Below w.heap.size w wr) (fun _ i _ => 4 - (intOf i).toNat)
  case atStart => exact ⟨0, _, _, by omega, rfl, rfl, hstart, hb0⟩
  case round =>
    obtain ⟨k, A, c, hk, rfl, rfl, hown, hbr⟩ := hrel
    clear hstart hb0 hne
    by_cases hlt : k < 4
    · have hks : k < s.size := by omega
      have hbyte := byte_get s k hks
      have HB := Lib.hid hbyte
      have hw1 : wrap64 ((s[k]'hks).toNat : Int) = ((s[k]'hks).toNat : Int) := IntWalk.wrap64_in _ (by have := (s[k]'hks).toNat_lt; omega)
      have hw2 : wrap64 (((s[k]'hks).toNat : Int) - 48) = ((s[k]'hks).toNat : Int) - 48 := IntWalk.wrap64_in _ (by have := (s[k]'hks).toNat_lt; omega)
      clear hbyte
      go_wp2_with (at_builtin; refine wpList_push rfl (.tmp 14) (.tmp 20) 23 rfl i0 (.int .i64 0) 8 Try.underlying23 hi0 hz0 hz1 hz2 rfl (by decide) _ _ rfl hown [.int .i64 (((s[k]'hks).toNat : Int) - 48)] rfl rfl (by simp [Value.oneCell']) (by omega) (by omega) hbr.size ?_)
      intro A' c' w2 hown2 hg2
      have hbr2 := hbr.grown hg2 hbr.size (fun i hi => (hown.lt _ hi).1)
      clear hown hbr hg2
      go_wp2
      go_roundw
      case rel =>
        refine ⟨k + 1, A', c', by omega, by go_num, rfl, ?_, hbr2⟩
        rw [List.take_add_one, HB.out]
        simpa using hown2
      case measure => simp [intOf]; omega
    · have hk4 : k = 4 := by omega
      subst hk4
      obtain ⟨A1, c1, hv, _, ho⟩ := own_of_row hown
      simp only [Value.slice.injEq] at hv
      obtain ⟨rfl, _, rfl⟩ := hv
      have hdl : (digs s.data.toList).length = 4 := by simp [digs]; have := HLEN.out; simp at this; omega
      have ho' : OwnInts wr w.heap.size wr.heap.size A (digs s.data.toList) := ho
      have hvd := validDigits_any A c (digs s.data.toList) wr ho'.row (by omega)
      rw [hdl] at hvd
      by_cases hv : validD (digs s.data.toList) = true
      · rw [hv] at hvd
        have hct := specCodeText_any' A c (digs s.data.toList) wr ho'.row hv
        rw [hdl] at hct
        rw [show chk (digs s.data.toList) 0 % 11 = checkF (digs s.data.toList) by simp [checkF, hv]] at hct
        have HV := Lib.hid hv
        have HVD := Lib.hid hvd
        obtain ⟨B, hB, hBL⟩ : ∃ B : ByteArray, str (codeL (digs s.data.toList) (checkF (digs s.data.toList))) = .string B ∧ B.toList = codeL (digs s.data.toList) (checkF (digs s.data.toList)) := ⟨_, rfl, by simp⟩
        rw [hB] at hct
        have HCT := Lib.hid hct
        have HL := Lib.hid hBL
        clear hB
        have HO := Lib.hid ho'
        have HDL := Lib.hid hdl
        clear hv hvd hct hBL ho ho' hown hdl
        go_wp2_with (first | (go_at_call 31; refine HVD.out.mono ?_; rintro e w' ⟨rfl, rfl⟩) | (go_at_call 32; refine HCT.out.mono ?_; rintro e w' ⟨rfl, n, rfl⟩))
        go_ret2
        refine ⟨A, c, ?_, HO.out.below (below_drewN (Below.refl _ _) n), below_drewN hbr n⟩
        rw [HDL.out]
        have hok : readOk s.data.toList = (B.toList == s.toList) := by
          rw [Bool.eq_iff_iff, beq_iff_eq, ByteArray.toList_eq s, HL.out]
          simp only [readOk, HV.out, HLEN.out, decide_true, Bool.true_and, Bool.and_true, decide_eq_true_eq]
          exact eq_comm
        rw [hok]
        rfl
      · have hv' : validD (digs s.data.toList) = false := by simpa using hv
        rw [hv'] at hvd
        have HV := Lib.hid hv'
        have HVD := Lib.hid hvd
        have HO := Lib.hid ho'
        have HDL := Lib.hid hdl
        clear hv hv' hvd ho ho' hown hdl
        go_wp2_with (go_at_call 31; refine HVD.out.mono ?_; rintro e w' ⟨rfl, rfl⟩)
        go_ret2
        refine ⟨A, c, ?_, HO.out, hbr⟩
        rw [HDL.out]
        have hok : readOk s.data.toList = false := by simp [readOk, HV.out]
        rw [hok]
        rfl

set_option maxRecDepth 100000 in
theorem specReadCode_any (s : ByteArray) (w : World) :
    Calls Try.prog 15 #[.string s] w (readTwo w s.data.toList) := by
  by_cases h6 : s.size = 6
  · have hc := specReadCode_six s w h6
    have HC := Lib.hid hc
    clear hc h6
    by_cases hok : readOk s.data.toList = true
    · have HOK := Lib.hid hok
      clear hok
      go_enter Try.func15, Try.ntmps15
      go_wp2_with fail
      refine HC.out.mono ?_
      rintro e w1 ⟨A, c, rfl, ho, hb⟩
      rw [HOK.out]
      go_wp2_with fail
      go_ret2
      exact ⟨A, c, by rw [readOk_yes HOK.out, HOK.out]; rfl, by rw [readOk_yes HOK.out]; exact ho, hb⟩
    · have hok' : readOk s.data.toList = false := by simpa using hok
      have HOK := Lib.hid hok'
      clear hok hok'
      go_enter Try.func15, Try.ntmps15
      go_wp2_with fail
      refine HC.out.mono ?_
      rintro e w1 ⟨A, c, rfl, ho, hb⟩
      rw [HOK.out]
      go_wp2_with fail
      go_ret2
      exact ⟨none, 0, by rw [readOk_no HOK.out, HOK.out]; rfl, by rw [readOk_no HOK.out]; exact .inl rfl, hb⟩
  · have hok : readOk s.data.toList = false := by
      have : ¬ s.data.toList.length = 6 := by rw [Array.length_toList]; exact h6
      simp only [readOk, decide_eq_false this, Bool.false_and]
    have HOK := Lib.hid hok
    have hne : ((s.size : Int) != 6) = true := by simp; omega
    clear h6 hok
    go_enter Try.func15, Try.ntmps15
    go_wp2
    go_ret2
    exact ⟨none, 0, by rw [readOk_no HOK.out, HOK.out]; rfl, by rw [readOk_no HOK.out]; exact .inl rfl, Below.refl _ _⟩
end Go.Proofs.Ytempfagjbpnlcaa
