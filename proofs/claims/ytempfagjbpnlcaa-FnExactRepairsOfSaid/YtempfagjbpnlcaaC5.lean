/- impl.ReadCode. No condition. -/
import Derived.Test.YtempfagjbpnlcaaC4
import Derived.Test.YtempfagjbpnlcaaL2
namespace Go.Proofs.Ytempfagjbpnlcaa
open Go.RowKit

theorem sg_inj {a b : Int} (ha : 0 ≤ a ∧ a ≤ 10) (hb : 0 ≤ b ∧ b ≤ 10) (h : sg a = sg b) : a = b := by
  rcases digit_cases ha with rfl | rfl | rfl | rfl | rfl | rfl | rfl | rfl | rfl | rfl | rfl <;>
    rcases digit_cases hb with rfl | rfl | rfl | rfl | rfl | rfl | rfl | rfl | rfl | rfl | rfl <;> first | rfl | (revert h; decide)

theorem sg_digit (b : UInt8) (h : 48 ≤ b.toNat ∧ b.toNat ≤ 57) : sg ((b.toNat : Int) - 48) = b := by
  have h1 : ¬ ((b.toNat : Int) - 48 = 10) := by omega
  simp only [sg, if_neg h1]
  have h2 : 48 + ((b.toNat : Int) - 48).toNat = b.toNat := by omega
  rw [h2]
  exact UInt8.ofNat_toNat

theorem onlyD_four {b0 b1 b2 b3 : UInt8} : onlyD [b0, b1, b2, b3] = true ↔ (48 ≤ b0.toNat ∧ b0.toNat ≤ 57) ∧ (48 ≤ b1.toNat ∧ b1.toNat ≤ 57) ∧ (48 ≤ b2.toNat ∧ b2.toNat ≤ 57) ∧ (48 ≤ b3.toNat ∧ b3.toNat ≤ 57) := by
  simp [onlyD, isDig]

theorem check_bd {zs : List Int} (h : validD zs = true) : 0 ≤ checkF zs ∧ checkF zs ≤ 10 := by
  simp only [checkF, h, if_true]; omega

theorem read_split {b0 b1 b2 b3 b5 : UInt8} {c : Int} (hd : onlyD [b0, b1, b2, b3] = true) (hc : Lib.indexByte signs b5 = c) (hc0 : 0 ≤ c) :
    validD (digs [b0, b1, b2, b3, 45, b5]) = true ∧ (readOk [b0, b1, b2, b3, 45, b5] = true ↔ checkF (digs [b0, b1, b2, b3, 45, b5]) = c) := by
  obtain ⟨h0, h1, h2, h3⟩ := onlyD_four.1 hd
  have hdg : digs [b0, b1, b2, b3, 45, b5] = [(b0.toNat : Int) - 48, (b1.toNat : Int) - 48, (b2.toNat : Int) - 48, (b3.toNat : Int) - 48] := rfl
  have hv : validD (digs [b0, b1, b2, b3, 45, b5]) = true := by
    rw [hdg]; exact validD_four (by omega) (by omega) (by omega) (by omega)
  refine ⟨hv, ?_⟩
  have hk := check_bd hv
  simp only [readOk, hv, List.length_cons, List.length_nil, Bool.and_true, Bool.and_eq_true, decide_eq_true_eq]
  rw [show codeL (digs [b0, b1, b2, b3, 45, b5]) (checkF (digs [b0, b1, b2, b3, 45, b5])) = [b0, b1, b2, b3, 45, sg (checkF (digs [b0, b1, b2, b3, 45, b5]))] by
    rw [hdg]; simp only [codeL, List.map_cons, List.map_nil, sg_digit _ h0, sg_digit _ h1, sg_digit _ h2, sg_digit _ h3]; rfl]
  have hb5 : 0 ≤ c ∧ c ≤ 10 ∧ sg c = b5 := by
    rcases sign_find b5 with ⟨hi, _⟩ | ⟨c', hc0', hc1', hi, hs⟩
    · rw [hi] at hc; omega
    · rw [hi] at hc; subst hc; exact ⟨hc0', hc1', hs⟩
  constructor
  · rintro ⟨-, e⟩
    have e5 : b5 = sg (checkF (digs [b0, b1, b2, b3, 45, b5])) := by
      have := congrArg (fun l => l[5]?) e
      simpa using this
    exact (sg_inj ⟨hb5.1, hb5.2.1⟩ hk (by rw [hb5.2.2]; exact e5)).symm
  · intro e
    rw [e, hb5.2.2]
    simp

theorem read_none {s : ByteArray} (h : ¬ ∃ b0 b1 b2 b3 b5 c, s = ⟨#[b0, b1, b2, b3, 45, b5]⟩ ∧ onlyD [b0, b1, b2, b3] = true ∧ Lib.indexByte signs b5 = c ∧ 0 ≤ c) : readOk s.data.toList = false := by
  rw [Bool.eq_false_iff]
  intro hok
  simp only [readOk, Bool.and_eq_true, decide_eq_true_eq] at hok
  obtain ⟨⟨h6, hv⟩, he⟩ := hok
  obtain ⟨b0, b1, b2, b3, b4, b5, rfl⟩ := six_of s (by rw [Array.length_toList] at h6; exact h6)
  simp only at hv he h6
  have hdg : digs [b0, b1, b2, b3, b4, b5] = [(b0.toNat : Int) - 48, (b1.toNat : Int) - 48, (b2.toNat : Int) - 48, (b3.toNat : Int) - 48] := rfl
  have hk := check_bd hv
  have e4 : b4 = 45 := by
    have := congrArg (fun l => l[4]?) he
    rw [hdg] at this
    simpa [codeL] using this
  have e5 : b5 = sg (checkF (digs [b0, b1, b2, b3, b4, b5])) := by
    have := congrArg (fun l => l[5]?) he
    rw [hdg] at this ⊢
    simpa [codeL] using this
  subst e4
  have hd0 := digit_of hv (k := 0) (by rw [hdg]; simp)
  have hd1 := digit_of hv (k := 1) (by rw [hdg]; simp)
  have hd2 := digit_of hv (k := 2) (by rw [hdg]; simp)
  have hd3 := digit_of hv (k := 3) (by rw [hdg]; simp)
  simp only [hdg, List.getElem_cons_zero, List.getElem_cons_succ] at hd0 hd1 hd2 hd3
  refine h ⟨b0, b1, b2, b3, b5, checkF (digs [b0, b1, b2, b3, 45, b5]), rfl, onlyD_four.2 ⟨by omega, by omega, by omega, by omega⟩, ?_, hk.1⟩
  rcases sign_find b5 with ⟨_, hn⟩ | ⟨c', hc0', hc1', hi, hs⟩
  · exact absurd e5.symm (hn _ hk.1 hk.2)
  · rw [hi]; exact sg_inj ⟨hc0', hc1'⟩ hk (by rw [hs]; exact e5)

set_option maxRecDepth 100000 in
set_option maxHeartbeats 2000000 in
theorem impReadCode_any (s : ByteArray) (w : World) :
    Calls Try.prog 12 #[.string s] w (readTwo w s.data.toList) := by
  by_cases h : ∃ b0 b1 b2 b3 b5 c, s = ⟨#[b0, b1, b2, b3, 45, b5]⟩ ∧ onlyD [b0, b1, b2, b3] = true ∧ Lib.indexByte signs b5 = c ∧ 0 ≤ c
  · obtain ⟨b0, b1, b2, b3, b5, c, rfl, hd, hc, hc0⟩ := h
    obtain ⟨hv, hiff⟩ := read_split hd hc hc0
    have hsp := fun W => split_yes b0 b1 b2 b3 b5 W c hd hc hc0
    have hdg : digs [b0, b1, b2, b3, 45, b5] = [(b0.toNat : Int) - 48, (b1.toNat : Int) - 48, (b2.toNat : Int) - 48, (b3.toNat : Int) - 48] := rfl
    obtain ⟨h0, h1, h2, h3⟩ := onlyD_four.1 hd
    obtain ⟨p, hp⟩ : ∃ p, (b0.toNat : Int) - 48 = p := ⟨_, rfl⟩
    obtain ⟨q, hq⟩ : ∃ q, (b1.toNat : Int) - 48 = q := ⟨_, rfl⟩
    obtain ⟨r, hr⟩ : ∃ r, (b2.toNat : Int) - 48 = r := ⟨_, rfl⟩
    obtain ⟨t, ht⟩ : ∃ t, (b3.toNat : Int) - 48 = t := ⟨_, rfl⟩
    have hsp2 : ∀ W, Calls Try.prog 33 #[.string ⟨#[b0, b1, b2, b3, 45, b5]⟩] W fun e w' => e = .returned (.tuple #[.agg #[.int .i64 p, .int .i64 q, .int .i64 r, .int .i64 t], .int .i64 c, .bool true]) ∧ Below W.heap.size W w' := fun W => by
      have := hsp W
      simp only [List.map_cons, List.map_nil, hp, hq, hr, ht] at this
      exact this
    have hp' : 0 ≤ p ∧ p ≤ 9 := by omega
    have hq' : 0 ≤ q ∧ q ≤ 9 := by omega
    have hr' : 0 ≤ r ∧ r ≤ 9 := by omega
    have ht' : 0 ≤ t ∧ t ≤ 9 := by omega
    rw [hp, hq, hr, ht] at hdg
    rw [hdg] at hv hiff
    have hck := checkF_four hv
    obtain ⟨k, hk⟩ : ∃ k, (p + 2 * q + 3 * r + 4 * t) % 11 = k := ⟨_, rfl⟩
    rw [hk] at hck
    rw [hck] at hiff
    have hco := fun W => checkOf_any p q r t W hp' hq' hr' ht'
    rw [hk] at hco
    have HSP := Lib.hid hsp2
    have HCO := Lib.hid hco
    have HIFF := Lib.hid hiff
    have HDG := Lib.hid hdg
    clear hsp hsp2 hco hiff hdg hck hk hv hp hq hr ht hd hc h0 h1 h2 h3
    by_cases hkc : k = c
    · have hok := HIFF.out.2 hkc
      have HOK := Lib.hid hok
      have hn : (k != c) = false := by simpa using hkc
      clear hkc hok
      go_enter Try.func12, Try.ntmps12
      go_wp2_with (first | (go_at_call 33; refine (HSP.out _).mono ?_; rintro e w1 ⟨rfl, hb1⟩) | (go_at_call 34; refine (HCO.out _).mono ?_; rintro e w2 ⟨rfl, hb2⟩))
      go_ret2
      have hz1 := hb1.size
      refine ⟨some ⟨w1.heap.size, 0, none⟩, 4, by rw [readOk_yes HOK.out, HOK.out, HDG.out]; rfl, ?_, (hb1.alloc hb1.size _).trans (hb2.mono (by simp; omega))⟩
      rw [readOk_yes HOK.out, HDG.out]
      have hz2 := hb2.size
      simp only [World.size_alloc] at hz2
      refine .inr ⟨w1.heap.size, 0, rfl, by omega, by omega, fun j u hu => ?_, fun _ j => ?_⟩
      · rw [hb2.cell (p := ⟨w1.heap.size, 0 + j, none⟩) (by simp), World.cell?_alloc_at _ _ _ _ rfl, Nat.zero_add]
        simpa using hu
      · rw [hb2.frozen (p := ⟨w1.heap.size, j, none⟩) (by simp), World.frozen?_alloc_at _ _ _ _ rfl]
    · have hok : readOk [b0, b1, b2, b3, 45, b5] = false := by
        rw [Bool.eq_false_iff]; exact fun e => hkc (HIFF.out.1 e)
      have HOK := Lib.hid hok
      have hn : (k != c) = true := by simpa using hkc
      clear hkc hok
      go_enter Try.func12, Try.ntmps12
      go_wp2_with (first | (go_at_call 33; refine (HSP.out _).mono ?_; rintro e w1 ⟨rfl, hb1⟩) | (go_at_call 34; refine (HCO.out _).mono ?_; rintro e w2 ⟨rfl, hb2⟩))
      go_ret2
      exact ⟨none, 0, by rw [readOk_no HOK.out, HOK.out]; rfl, by rw [readOk_no HOK.out]; exact .inl rfl, (hb1.alloc hb1.size _).trans (hb2.mono (by have := hb1.size; simp; omega))⟩
  · have hok := read_none h
    have hsp := fun W => split_no s W h
    have HOK := Lib.hid hok
    have HSP := Lib.hid hsp
    clear hok hsp h
    go_enter Try.func12, Try.ntmps12
    go_wp2_with (first | (go_at_call 33; refine (HSP.out _).mono ?_; rintro e w1 ⟨rfl, hb1⟩; unfold splitNo))
    go_ret2
    exact ⟨none, 0, by rw [readOk_no HOK.out, HOK.out]; rfl, by rw [readOk_no HOK.out]; exact .inl rfl, hb1.alloc hb1.size _⟩
end Go.Proofs.Ytempfagjbpnlcaa
