/- FewestPasses, both sides. No condition. -/
import Derived.Test.YtdgdlmpmoafkgaaS6
namespace Go.Proofs.Ytdgdlmpmoafkgaa
open Go.RowKit

def passN (n k : Nat) : Nat := if n ≤ 1 then 0 else if n ≤ k then 1 else if n ≤ k * k then 2 else if n ≤ k * k * k then 3 else 4
theorem passN_fin : ∀ n : Fin 10, ∀ k : Fin 5, ∀ j : Fin 5, 2 ≤ k.1 → (k.1 ^ j.1 < n.1 ↔ j.1 < passN n.1 k.1) := by decide +kernel
theorem passN_lt {n k j : Nat} (hn : n ≤ 9) (hk : 2 ≤ k) (hk4 : k ≤ 4) (hj : j ≤ 4) : k ^ j < n ↔ j < passN n k := passN_fin ⟨n, by omega⟩ ⟨k, by omega⟩ ⟨j, by omega⟩ hk
theorem passN_le (n k : Nat) : passN n k ≤ 4 := by unfold passN; split <;> (try split) <;> (try split) <;> (try split) <;> omega
theorem pow_fin : ∀ k : Fin 5, ∀ j : Fin 6, k.1 ^ j.1 ≤ 1024 := by decide
theorem pow_le {k j : Nat} (hk : k ≤ 4) (hj : j ≤ 5) : k ^ j ≤ 1024 := pow_fin ⟨k, by omega⟩ ⟨j, by omega⟩

def runsNat (zs : List Int) : Nat := if zs.length = 0 then 0 else runNo zs (zs.length - 1) + 1
theorem runsN_yes {zs : List Int} (h : rowB 9 zs = true) : runsN zs = (runsNat zs : Int) := by
  simp only [runsN, runsNat, h, if_true]; split <;> simp
theorem runsNat_le {zs : List Int} (h : rowB 9 zs = true) : runsNat zs ≤ 9 := by
  have h1 := rowB_len h
  have h2 := runNo_le zs (zs.length - 1)
  unfold runsNat; split <;> omega

def fewN (zs : List Int) (k : Int) : Int := if rowB 9 zs && inR k 2 4 then (passN (runsNat zs) k.toNat : Int) else -1
theorem fewN_yes {zs : List Int} {k : Nat} (h : rowB 9 zs = true) (h2 : inR k 2 4 = true) : fewN zs (k : Int) = (passN (runsNat zs) k : Int) := by simp [fewN, h, h2]
theorem fewN_no {zs : List Int} {k : Int} (h : rowB 9 zs = false ∨ inR k 2 4 = false) : fewN zs k = -1 := by rcases h with h | h <;> simp [fewN, h]

set_option maxRecDepth 100000 in
theorem canSort_any (k : Int) (w : World) : Calls Try.prog 44 #[.int .i64 k] w fun e w' => e = .returned (.bool (inR k 2 4)) ∧ w = w' := by
  by_cases h : 2 ≤ k
  · by_cases h2 : k ≤ 4
    · go_enter Try.func44, Try.ntmps44
      go_wp2
      go_ret
      exact ⟨by simp [inR]; omega, rfl⟩
    · go_enter Try.func44, Try.ntmps44
      go_wp2
      go_ret
      exact ⟨by simp [inR]; omega, rfl⟩
  · go_enter Try.func44, Try.ntmps44
    go_wp2
    go_ret
    exact ⟨by simp [inR]; omega, rfl⟩

set_option maxRecDepth 100000 in
theorem passesFor_any (n k : Nat) (w : World) (hn : n ≤ 9) (hk : 2 ≤ k) (hk4 : k ≤ 4) :
    Calls Try.prog 49 #[.int .i64 n, .int .i64 k] w fun e w' => e = .returned (.int .i64 (passN n k : Int)) ∧ w = w' := by
  have hp4 := passN_le n k
  go_enter Try.func49, Try.ntmps49
  go_wp2
  go_loop [5] (fun i => ∃ j : Nat, j ≤ passN n k ∧ i = .int .i64 j) (fun i => 4 - (intOf i).toNat)
  case atStart => exact ⟨0, by omega, rfl⟩
  case round =>
    obtain ⟨j, hj, rfl⟩ := hrel
    have hpw := fun W => power_any k j W (by omega) (by have := pow_le (k := k) (j := j) hk4 (by omega); omega) (by omega)
    have hle := pow_le (k := k) (j := j) hk4 (by omega)
    have hlt := passN_lt (j := j) hn hk hk4 (by omega)
    obtain ⟨P, hP⟩ : ∃ P, k ^ j = P := ⟨_, rfl⟩
    obtain ⟨q, hq⟩ : ∃ q, passN n k = q := ⟨_, rfl⟩
    rw [hP] at hpw hle hlt
    rw [hq] at hj hp4 hlt
    have HPW := Lib.hid hpw
    have HQ := Lib.hid hq
    clear hpw hP hq
    by_cases hjq : j < q
    · have hPn := hlt.2 hjq
      have hd : decide (P < n) = true := decide_eq_true hPn
      clear hlt
      go_wp2_with (go_at_call 60; refine (HPW.out _).mono ?_; rintro e w' ⟨rfl, rfl⟩)
      clear hd
      go_round
      case rel => exact ⟨j + 1, by rw [HQ.out]; omega, by go_num⟩
      case measure => simp [intOf]; omega
    · have hPn : ¬ P < n := fun h => hjq (hlt.1 h)
      have hd : decide (P < n) = false := decide_eq_false hPn
      have hjj : j = q := by omega
      subst hjj
      clear hlt
      go_wp2_with (go_at_call 60; refine (HPW.out _).mono ?_; rintro e w' ⟨rfl, rfl⟩)
      go_ret
      exact ⟨ret_int (by rw [HQ.out]), rfl⟩

set_option maxRecDepth 100000 in
set_option maxHeartbeats 400000 in
theorem impFewest_any (A : Option Addr) (c : Nat) (zs : List Int) (k : Int) (w : World) (hr : Ints w w.heap.size A zs) (hlc : zs.length ≤ c) :
    Calls Try.prog 46 #[.slice A zs.length c, .int .i64 k] w fun e w' => e = .returned (.int .i64 (fewN zs k)) ∧ Below w.heap.size w w' := by
  have hva := impValidRow_any A c zs w hr hlc
  by_cases hv : rowB 9 zs = true
  · rw [hv] at hva
    by_cases hk : inR k 2 4 = true
    · have hkb : 2 ≤ k ∧ k ≤ 4 := by simpa [inR] using hk
      obtain ⟨m, rfl⟩ := Int.eq_ofNat_of_zero_le (show 0 ≤ k by omega)
      have hro := impRunsOf_any A c zs w hr hlc
      rw [runsN_yes hv] at hro
      have hn9 := runsNat_le hv
      have hf := fewN_yes hv hk
      obtain ⟨n, hn⟩ : ∃ n, runsNat zs = n := ⟨_, rfl⟩
      rw [hn] at hro hf hn9
      have hir := fun W => canSort_any (m : Int) W
      rw [hk] at hir
      have hm2 : 2 ≤ m := by omega
      have hm4 : m ≤ 4 := by omega
      have HVA := Lib.hid hva
      have HRO := Lib.hid hro
      have HF := Lib.hid hf
      have HIR := Lib.hid hir
      have hp4 := passN_le n m
      clear hva hro hf hir hn hk hv hkb
      go_enter Try.func46, Try.ntmps46
      go_wp2_with (first | (go_at_call 18; refine HVA.out.mono ?_; rintro e w' ⟨rfl, rfl⟩) | (go_at_call 44; refine (HIR.out _).mono ?_; rintro e w' ⟨rfl, rfl⟩) | (go_at_call 19; refine HRO.out.mono ?_; rintro e w1 ⟨rfl, hb⟩))
      go_loop [6, 7] (fun i p => ∃ j : Nat, j ≤ passN n m ∧ i = .int .i64 j ∧ p = .int .i64 ((m ^ j : Nat) : Int)) (fun i _ => 4 - (intOf i).toNat)
      case atStart => exact ⟨0, by omega, rfl, rfl⟩
      case round =>
        obtain ⟨j, hj, rfl, rfl⟩ := hrel
        have hle := pow_le (k := m) (j := j) hm4 (by omega)
        have hle2 := pow_le (k := m) (j := j + 1) hm4 (by omega)
        have hlt := passN_lt (j := j) hn9 hm2 hm4 (by omega)
        rw [Nat.pow_succ] at hle2
        obtain ⟨P, hP⟩ : ∃ P, m ^ j = P := ⟨_, rfl⟩
        obtain ⟨q, hq⟩ : ∃ q, passN n m = q := ⟨_, rfl⟩
        rw [hP] at hle hlt hle2 ⊢
        rw [hq] at hj hp4 hlt
        have HP := Lib.hid hP
        have HQ := Lib.hid hq
        clear hP hq
        by_cases hjq : j < q
        · have hPn := hlt.2 hjq
          have hd : decide (P < n) = true := decide_eq_true hPn
          have hm1 : (0 : Int) ≤ (P : Int) * (m : Int) := by rw [← Int.natCast_mul]; omega
          have hm3 : (P : Int) * (m : Int) ≤ 1024 := by rw [← Int.natCast_mul]; omega
          clear hlt
          go_wp2
          clear hd
          go_round
          case rel => exact ⟨j + 1, by rw [HQ.out]; omega, by go_num, by rw [Nat.pow_succ, HP.out, Int.natCast_mul]⟩
          case measure => simp [intOf]; omega
        · have hPn : ¬ P < n := fun h => hjq (hlt.1 h)
          have hd : decide (P < n) = false := decide_eq_false hPn
          have hjj : j = q := by omega
          subst hjj
          clear hlt
          go_wp2
          go_ret
          exact ⟨ret_int (by rw [HF.out, HQ.out]), hb⟩
    · have hk' : inR k 2 4 = false := by simpa using hk
      have hir := fun W => canSort_any k W
      rw [hk'] at hir
      have HF := Lib.hid (fewN_no (zs := zs) (.inr hk'))
      have HVA := Lib.hid hva
      have HIR := Lib.hid hir
      clear hva hir hk hk' hv
      go_enter Try.func46, Try.ntmps46
      go_wp2_with (first | (go_at_call 18; refine HVA.out.mono ?_; rintro e w' ⟨rfl, rfl⟩) | (go_at_call 44; refine (HIR.out _).mono ?_; rintro e w' ⟨rfl, rfl⟩))
      go_ret
      exact ⟨ret_int HF.out.symm, Below.refl _ _⟩
  · have hv' : rowB 9 zs = false := by simpa using hv
    rw [hv'] at hva
    have HF := Lib.hid (fewN_no (k := k) (.inl hv'))
    have HVA := Lib.hid hva
    clear hva hv hv'
    go_enter Try.func46, Try.ntmps46
    go_wp2_with (first | (go_at_call 18; refine HVA.out.mono ?_; rintro e w' ⟨rfl, rfl⟩))
    go_ret
    exact ⟨ret_int HF.out.symm, Below.refl _ _⟩
end Go.Proofs.Ytdgdlmpmoafkgaa
