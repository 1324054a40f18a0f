/- The office of digits, plain, and spec's helpers. No condition. -/
import Derived.Test.YtlmcclbikljbhaaQ4
namespace Go.Proofs.Ytlmcclbikljbhaa
open Go.RowKit

def bg (s h : ByteArray) : Bool := decide (h.size ≤ s.size) && ((s.extract 0 h.size).toList == h.toList)
/-- The place of the longest head among the first n with which s begins, but for place k; -1 if there is none. -/
def lg (rs : List (ByteArray × Int)) (s : ByteArray) (k : Int) : Nat → Int
  | 0 => -1
  | n + 1 => if (n : Int) ≠ k ∧ bg s (hd rs n) = true ∧ (lg rs s k n < 0 ∨ (hd rs (lg rs s k n).toNat).size < (hd rs n).size) then n else lg rs s k n
theorem lg_le (rs : List (ByteArray × Int)) (s : ByteArray) (k : Int) (n : Nat) : -1 ≤ lg rs s k n ∧ lg rs s k n < n := by
  induction n with
  | zero => simp [lg]
  | succ n ih => simp only [lg]; split <;> omega
def bz (rs : List (ByteArray × Int)) (b : Int) : Int := if b < 0 then -1 else (hd rs b.toNat).size
def ov (rs : List (ByteArray × Int)) (b : Int) : Int := if b < 0 then -1 else of_ rs b.toNat
theorem bz_iff (rs : List (ByteArray × Int)) (b : Int) (n : Nat) : bz rs b < (hd rs n).size ↔ (b < 0 ∨ (hd rs b.toNat).size < (hd rs n).size) := by
  unfold bz
  split <;> omega
theorem bz_nat (rs : List (ByteArray × Int)) (n : Nat) : bz rs n = (hd rs n).size := by
  have : ¬ (n : Int) < 0 := by omega
  simp [bz, this]
theorem ov_nat (rs : List (ByteArray × Int)) (n : Nat) : ov rs n = of_ rs n := by
  have : ¬ (n : Int) < 0 := by omega
  simp [ov, this]
theorem lg_yes {rs : List (ByteArray × Int)} {s : ByteArray} {k : Int} {n : Nat} (hk : (n : Int) ≠ k) (h : bg s (hd rs n) = true) (hb : bz rs (lg rs s k n) < (hd rs n).size) : lg rs s k (n + 1) = n := by
  simp only [lg]; rw [if_pos ⟨hk, h, (bz_iff ..).1 hb⟩]
theorem lg_no {rs : List (ByteArray × Int)} {s : ByteArray} {k : Int} {n : Nat} (h : (n : Int) = k ∨ bg s (hd rs n) = false ∨ ¬ bz rs (lg rs s k n) < (hd rs n).size) : lg rs s k (n + 1) = lg rs s k n := by
  simp only [lg]; rw [if_neg]
  rintro ⟨h1, h2, h3⟩
  rcases h with h | h | h
  · exact h1 h
  · rw [h] at h2; cases h2
  · exact h ((bz_iff ..).2 h3)

set_option maxRecDepth 100000 in
theorem begins_any (s h : ByteArray) (w : World) :
    Calls Try.prog 112 #[.string s, .string h] w fun e w' => e = .returned (.bool (bg s h)) ∧ ∃ n, w' = w.drewN n := by
  by_cases hle : h.size ≤ s.size
  · have hb : bg s h = ((s.extract 0 h.size).toList == h.toList) := by simp [bg, hle]
    rw [hb]
    have hleI : (h.size : Int) ≤ s.size := by omega
    go_enter Try.func112, Try.ntmps112
    go_wp2
    go_ret
    exact ⟨rfl, 0, rfl⟩
  · have hb : bg s h = false := by simp [bg, hle]
    rw [hb]
    have hleI : (s.size : Int) < h.size := by omega
    go_enter Try.func112, Try.ntmps112
    go_wp2
    go_ret
    exact ⟨rfl, 0, rfl⟩

def fourB (s : ByteArray) : Bool := onlyD s.data.toList && decide (s.size = 4)
set_option maxRecDepth 100000 in
theorem isDigits_any (s : ByteArray) (w : World) (hs : s.size ≤ 1048576) :
    Calls Try.prog 72 #[.string s] w fun e w' => e = .returned (.bool (fourB s)) ∧ w' = w := by
  go_enter Try.func72, Try.ntmps72
  go_wp2
  go_loop [3] (fun i => ∃ k : Nat, k ≤ s.size ∧ i = .int .i64 k ∧ (s.data.toList.take k).all isDig = true) (fun i => s.size - (intOf i).toNat)
  case atStart => exact ⟨0, by omega, rfl, by simp⟩
  case round =>
    obtain ⟨k, hk, rfl, hdg⟩ := hrel
    have HD := Lib.hid hdg
    clear hdg
    by_cases hks : k < s.size
    · have hby := byte_get s k hks
      have HBY := Lib.hid hby
      clear hby
      by_cases hdig : 48 ≤ (s[k]'hks).toNat ∧ (s[k]'hks).toNat ≤ 57
      · obtain ⟨hd1, hd2⟩ := hdig
        have hx1 : (48 : Int) ≤ ((s[k]'hks).toNat : Int) := by omega
        have hx2 : ((s[k]'hks).toNat : Int) ≤ 57 := by omega
        go_wp2
        go_round
        case rel => exact ⟨k + 1, by omega, by go_num, by rw [List.take_add_one, HBY.out, List.all_append, HD.out]; simp [isDig, hd1, hd2]⟩
        case measure => simp [intOf]; omega
      · have hF : fourB s = false := by
          have : onlyD s.data.toList = false := by
            simp only [onlyD, List.all_eq_false]
            exact ⟨s[k]'hks, List.mem_of_getElem? HBY.out, by simp only [isDig, decide_eq_true_eq]; exact hdig⟩
          simp [fourB, this]
        have HF := Lib.hid hF
        have hq : ((s[k]'hks).toNat : Int) < 48 ∨ 57 < ((s[k]'hks).toNat : Int) := by omega
        clear hF hdig
        rcases hq with hq | hq
        · go_wp2
          go_ret
          exact ⟨ret_bool HF.out.symm, rfl⟩
        · have hq2 : ¬ ((s[k]'hks).toNat : Int) < 48 := by omega
          go_wp2
          go_ret
          exact ⟨ret_bool HF.out.symm, rfl⟩
    · have hk' : k = s.size := by omega
      subst hk'
      have hod : onlyD s.data.toList = true := by
        have := HD.out
        rwa [List.take_of_length_le (by rw [Array.length_toList]; exact Nat.le_refl _)] at this
      have HT := Lib.hid (show fourB s = decide (s.size = 4) by simp [fourB, hod])
      clear hod hks
      go_wp2
      go_ret
      exact ⟨ret_bool (by rw [HT.out, Bool.eq_iff_iff, beq_iff_eq, decide_eq_true_eq]; omega), rfl⟩

set_option maxRecDepth 100000 in
set_option maxHeartbeats 2000000 in
theorem office_any (A : Option Addr) (c : Nat) (rs : List (ByteArray × Int)) (s : ByteArray) (w : World) (hr : Own w 0 w.heap.size A (flat rs)) (hl : rs.length ≤ 1048576) (hs : ∀ r ∈ rs, r.1.size ≤ 1048576) :
    Calls Try.prog 73 #[.slice A rs.length c, .string s] w fun e w' => e = .returned (.int .i64 (ov rs (lg rs s (-1) rs.length))) ∧ ∃ n, w' = w.drewN n := by
  have HS := Lib.hid hs
  clear hs
  go_enter Try.func73, Try.ntmps73
  go_wp2
  go_loopw [5, 6, 7] (fun bv o i wr => ∃ n : Nat, n ≤ rs.length ∧ i = .int .i64 n ∧ bv = .int .i64 (bz rs (lg rs s (-1) n)) ∧ o = .int .i64 (ov rs (lg rs s (-1) n)) ∧ ∃ q, wr = w.drewN q) (fun _ _ i _ => rs.length - (intOf i).toNat)
  case atStart => exact ⟨0, by omega, rfl, rfl, rfl, 0, rfl⟩
  case round =>
    obtain ⟨n, hn, rfl, rfl, rfl, hwr⟩ := hrel
    have HWR := Lib.hid hwr
    have hbw : Below w.heap.size w wr := by obtain ⟨q, rfl⟩ := hwr; exact below_drewN (Below.refl _ _) q
    have hrr := hr.below hbw
    obtain ⟨W, hW⟩ : ∃ W : World, W = wr := ⟨_, rfl⟩
    subst hW
    clear hwr
    obtain ⟨B, hBe⟩ : ∃ B, bz rs (lg rs s (-1) n) = B := ⟨_, rfl⟩
    obtain ⟨O, hOe⟩ : ∃ O, ov rs (lg rs s (-1) n) = O := ⟨_, rfl⟩
    rw [hBe, hOe]
    have HB := Lib.hid hBe
    have HO := Lib.hid hOe
    clear hBe hOe
    by_cases hlt : n < rs.length
    · obtain ⟨b, o, rfl, hb, hc⟩ := hrr.open (by rw [flat_length]; omega)
      obtain ⟨hc1, hc2⟩ := routes_at hc hlt
      have hsz := HS.out _ (List.getElem_mem hlt)
      have hh := hd_get hlt
      have ho := of_get hlt
      obtain ⟨h, hse⟩ : ∃ s, rs[n].1 = s := ⟨_, rfl⟩
      obtain ⟨f, hfe⟩ : ∃ f, rs[n].2 = f := ⟨_, rfl⟩
      rw [hse] at hc1 hsz hh
      rw [hfe] at hc2 ho
      have HH := Lib.hid hh
      have HOF := Lib.hid ho
      have hnI : (n : Int) < rs.length := by omega
      have hbW : b < W.heap.size := by have := hbw.size; omega
      have hbg := fun X => begins_any s h X
      clear hc hh ho hse hfe hrr
      by_cases hq : bg s h = true
      · rw [hq] at hbg
        have HBG := Lib.hid hbg
        have HQ := Lib.hid hq
        clear hbg hq
        by_cases hgt : B < (h.size : Int)
        · have HY := Lib.hid (show lg rs s (-1) (n + 1) = n from lg_yes (by omega) (by rw [HH.out]; exact HQ.out) (by rw [HB.out, HH.out]; exact hgt))
          go_wp2_with fail
          refine (HBG.out _).mono ?_
          rintro e w2 ⟨rfl, q2, hw2⟩
          have b2 : Below W.heap.size W w2 := by rw [hw2]; exact below_drewN (Below.refl _ _) q2
          have g1 := cell_stay b2 hbW hc1
          have g2 := cell_stay b2 hbW hc2
          have HW2 := Lib.hid (show ∃ q, w2 = w.drewN q by obtain ⟨q, h⟩ := HWR.out; rw [hw2, h]; exact ⟨_, World.drewN_drewN ..⟩)
          clear hw2 b2
          go_wp2
          go_roundw
          case rel => exact ⟨n + 1, by omega, by go_num, by rw [HY.out, bz_nat, HH.out], by rw [HY.out, ov_nat, HOF.out], HW2.out⟩
          case measure => simp [intOf]; omega
        · have HY := Lib.hid (show lg rs s (-1) (n + 1) = lg rs s (-1) n from lg_no (.inr (.inr (by rw [HB.out, HH.out]; exact hgt))))
          have hge : (h.size : Int) ≤ B := by omega
          go_wp2_with fail
          refine (HBG.out _).mono ?_
          rintro e w2 ⟨rfl, q2, hw2⟩
          have b2 : Below W.heap.size W w2 := by rw [hw2]; exact below_drewN (Below.refl _ _) q2
          have g1 := cell_stay b2 hbW hc1
          have g2 := cell_stay b2 hbW hc2
          have HW2 := Lib.hid (show ∃ q, w2 = w.drewN q by obtain ⟨q, h⟩ := HWR.out; rw [hw2, h]; exact ⟨_, World.drewN_drewN ..⟩)
          clear hw2 b2
          go_wp2
          go_roundw
          case rel => exact ⟨n + 1, by omega, by go_num, by rw [HY.out, HB.out], by rw [HY.out, HO.out], HW2.out⟩
          case measure => simp [intOf]; omega
      · have hq' : bg s h = false := by simpa using hq
        rw [hq'] at hbg
        have HBG := Lib.hid hbg
        have HY := Lib.hid (show lg rs s (-1) (n + 1) = lg rs s (-1) n from lg_no (.inr (.inl (by rw [HH.out]; exact hq'))))
        clear hbg hq hq'
        go_wp2_with fail
        refine (HBG.out _).mono ?_
        rintro e w2 ⟨rfl, q2, hw2⟩
        have HW2 := Lib.hid (show ∃ q, w2 = w.drewN q by obtain ⟨q, h⟩ := HWR.out; rw [hw2, h]; exact ⟨_, World.drewN_drewN ..⟩)
        clear hw2
        go_wp2
        go_roundw
        case rel => exact ⟨n + 1, by omega, by go_num, by rw [HY.out, HB.out], by rw [HY.out, HO.out], HW2.out⟩
        case measure => simp [intOf]; omega
    · have hn' : n = rs.length := by omega
      subst hn'
      go_wp2
      go_ret
      exact ⟨by rw [HO.out]; rfl, HWR.out⟩
end Go.Proofs.Ytlmcclbikljbhaa
