/- The walk of the law FnReadCode. No condition. -/
import Derived.Test.YtempfagjbpnlcaaRsu
import Derived.Test.YtempfagjbpnlcaaC5
import Derived.Test.YtempfagjbpnlcaaEq
namespace Go.Proofs.Ytempfagjbpnlcaa
open Go.RowKit

set_option maxRecDepth 100000 in
set_option maxHeartbeats 2000000 in
theorem impRepairs_code (s : ByteArray) (w : World) (hok : readOk s.data.toList = true) :
    Calls Try.prog 16 #[.string s] w fun e w' => e = .returned (.slice none 0 0) ∧ Below w.heap.size w w' := by
  by_cases h : ∃ b0 b1 b2 b3 b5 c, s = ⟨#[b0, b1, b2, b3, 45, b5]⟩ ∧ onlyD [b0, b1, b2, b3] = true ∧ Lib.indexByte signs b5 = c ∧ 0 ≤ c
  · obtain ⟨b0, b1, b2, b3, b5, c, rfl, hd, hc, hc0⟩ := h
    obtain ⟨hv, hiff⟩ := read_split hd hc hc0
    have hsp := fun W => split_yes b0 b1 b2 b3 b5 W c hd hc hc0
    have hdg : digs [b0, b1, b2, b3, 45, b5] = [(b0.toNat : Int) - 48, (b1.toNat : Int) - 48, (b2.toNat : Int) - 48, (b3.toNat : Int) - 48] := rfl
    obtain ⟨h0, h1, h2, h3⟩ := onlyD_four.1 hd
    obtain ⟨p, hp⟩ : ∃ p, (b0.toNat : Int) - 48 = p := ⟨_, rfl⟩
    obtain ⟨q, hq⟩ : ∃ q, (b1.toNat : Int) - 48 = q := ⟨_, rfl⟩
    obtain ⟨r, hr⟩ : ∃ r, (b2.toNat : Int) - 48 = r := ⟨_, rfl⟩
    obtain ⟨t, ht⟩ : ∃ t, (b3.toNat : Int) - 48 = t := ⟨_, rfl⟩
    have hsp2 : ∀ W, Calls Try.prog 33 #[.string ⟨#[b0, b1, b2, b3, 45, b5]⟩] W fun e w' => e = .returned (.tuple #[.agg #[.int .i64 p, .int .i64 q, .int .i64 r, .int .i64 t], .int .i64 c, .bool true]) ∧ Below W.heap.size W w' := fun W => by
      have := hsp W
      simp only [List.map_cons, List.map_nil, hp, hq, hr, ht] at this
      exact this
    have hp' : 0 ≤ p ∧ p ≤ 9 := by omega
    have hq' : 0 ≤ q ∧ q ≤ 9 := by omega
    have hr' : 0 ≤ r ∧ r ≤ 9 := by omega
    have ht' : 0 ≤ t ∧ t ≤ 9 := by omega
    rw [hp, hq, hr, ht] at hdg
    rw [hdg] at hv hiff
    have hck := checkF_four hv
    obtain ⟨k, hk⟩ : ∃ k, (p + 2 * q + 3 * r + 4 * t) % 11 = k := ⟨_, rfl⟩
    rw [hk] at hck
    rw [hck] at hiff
    have hkc := hiff.1 hok
    subst hkc
    have hco := fun W => checkOf_any p q r t W hp' hq' hr' ht'
    rw [hk] at hco
    have HSP := Lib.hid hsp2
    have HCO := Lib.hid hco
    have hkk : (k == k) = true := by simp
    clear hsp hsp2 hco hiff hdg hck hk hv hp hq hr ht hd hc h0 h1 h2 h3 hok
    go_enter Try.func16, Try.ntmps16
    go_wp2_with (first | (go_at_call 33; refine (HSP.out _).mono ?_; rintro e w1 ⟨rfl, hb1⟩) | (go_at_call 34; refine (HCO.out _).mono ?_; rintro e w2 ⟨rfl, hb2⟩))
    go_ret
    exact ⟨rfl, (hb1.alloc hb1.size _).trans (hb2.mono (by have := hb1.size; simp; omega))⟩
  · exact absurd hok (by rw [read_none h]; simp)

theorem readOk_text {s : ByteArray} (h : readOk s.data.toList = true) : codeV (digs s.data.toList) = .string s := by
  simp only [readOk, Bool.and_eq_true, decide_eq_true_eq] at h
  obtain ⟨⟨_, hv⟩, he⟩ := h
  rw [codeV_yes hv, str, ← he]

set_option maxRecDepth 100000 in
set_option maxHeartbeats 2000000 in
theorem readCode_law (A : Option Addr) (c : Nat) (zs : List Int) (w : World) (hr : Own w 0 w.heap.size A (zs.map (Value.int .u8))) (hx : zs.length ≤ c ∧ c ≤ maxLen ∧ ∀ z ∈ zs, (Lit.int .u8 z).wf = true) :
    Calls Try.prog 4 #[.slice A zs.length c] w fun e w' => e = .returned (.bool true) ∧ Below w.heap.size w w' := by
  have hl : zs.length ≤ 9223372036854775807 := by have := hx.1; have := hx.2.1; unfold maxLen at this; omega
  have HX := Lib.hid hx
  clear hx
  by_cases h20 : zs.length ≤ 1048576
  · go_enter Try.func4, Try.ntmps4
    go_wp2_with fail
    refine (drawReadCode_any _ _ _ _ hr HX.out).mono ?_
    rintro e w1 ⟨s, rfl, hs, b1⟩
    have z1 := b1.size
    obtain ⟨V, hV⟩ : ∃ V, readV s.data.toList = V := ⟨_, rfl⟩
    obtain ⟨ok, hok⟩ : ∃ ok, readOk s.data.toList = ok := ⟨_, rfl⟩
    have hl4 : V.length ≤ 4 := by
      rw [← hV]; unfold readV
      split
      · simp [digs]; omega
      · simp
    have hsp := fun W => specReadCode_any s W
    have him := fun W => impReadCode_any s W
    unfold readTwo at hsp him
    rw [hV, hok] at hsp him
    have HSP := Lib.hid hsp
    have HIM := Lib.hid him
    have HV := Lib.hid hV
    have HOK := Lib.hid hok
    have HE := Lib.hid (eqI_refl' V)
    clear hsp him hV hok
    go_wp2_with fail
    refine (HIM.out _).mono ?_
    rintro e w2 ⟨A2, c2, rfl, o2, b2⟩
    have z2 := b2.size
    have p2 := b1.trans (b2.mono z1)
    go_wp2_with fail
    refine (HSP.out _).mono ?_
    rintro e w3 ⟨A3, c3, rfl, o3, b3⟩
    have z3 := b3.size
    have o23 := o2.past b3
    have p3 := p2.trans (b3.mono (by omega))
    go_wp2_with fail
    refine (equalInts_any _ _ _ _ _ _ _ o23.row o3.row (by omega)).mono ?_
    rw [HE.out]
    rintro e w4 ⟨rfl, n4, hw4⟩
    have b4 : Below w3.heap.size w3 w4 := by rw [hw4]; exact below_drewN (Below.refl _ _) n4
    clear hw4
    have z4 := b4.size
    have o24 := o23.past b4
    have o34 := o3.past b4
    have p4 := p3.trans (b4.mono (by omega))
    clear b1 b2 b3 b4 o2 o3 o23 p2 p3 hr
    cases ok with
    | true =>
      have hVd : V = digs s.data.toList := by rw [← HV.out]; exact readOk_yes HOK.out
      have htx := readOk_text HOK.out
      have hct := fun W h => impCodeText_any A2 c2 V W h
      rw [← hVd] at htx
      rw [htx] at hct
      have HCT := Lib.hid hct
      have hrep := fun W => impRepairs_code s W HOK.out
      have HRP := Lib.hid hrep
      have hbb : (s.toList == s.toList) = true := by simp
      clear hVd htx hct hrep
      go_wp2_with fail
      refine (HCT.out _ o24.row).mono ?_
      rintro e w5 ⟨rfl, b5⟩
      go_wp2_with fail
      refine (HRP.out _).mono ?_
      rintro e w6 ⟨rfl, b6⟩
      have z5 := b5.size
      go_wp2_with fail
      go_ret
      exact ⟨rfl, (p4.trans (b5.mono (by omega))).trans (b6.mono (by omega))⟩
    | false =>
      go_wp2_with fail
      refine (equalInts_any _ _ _ _ _ _ _ o24.row o34.row (by omega)).mono ?_
      rw [HE.out]
      rintro e w5 ⟨rfl, n5, rfl⟩
      go_wp2_with fail
      go_ret
      exact ⟨rfl, below_drewN p4 n5⟩
  · go_enter Try.func4, Try.ntmps4
    go_wp2
    go_ret
    exact ⟨rfl, Below.refl _ _⟩
end Go.Proofs.Ytempfagjbpnlcaa
