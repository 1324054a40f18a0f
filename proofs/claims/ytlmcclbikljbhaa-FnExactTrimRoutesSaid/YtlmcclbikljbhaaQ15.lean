/- All digits: texts that a law tries. No condition. -/
import Derived.Test.YtlmcclbikljbhaaQ13
import Derived.Test.YtlmcclbikljbhaaQ12
namespace Go.Proofs.Ytlmcclbikljbhaa
open Go.RowKit

set_option maxRecDepth 100000 in
theorem lpower_any (n : Nat) (w : World) (hn : n ≤ 20) :
    Calls Try.prog 78 #[.int .i64 n] w fun e w' => e = .returned (.int .i64 ((2 ^ n : Nat) : Int)) ∧ w = w' := by
  have hle : ∀ j, j ≤ n → 2 ^ j ≤ 1048576 := fun j hj => Nat.le_trans (Nat.pow_le_pow_right (by omega) (show j ≤ 20 by omega)) (by decide)
  have HL := Lib.hid hle
  clear hle
  go_enter Try.func78, Try.ntmps78
  go_wp2
  go_loop [0, 3] (fun m out => ∃ j : Nat, j ≤ n ∧ m = .int .i64 ((n - j : Nat) : Int) ∧ out = .int .i64 ((2 ^ j : Nat) : Int)) (fun m _ => (intOf m).toNat)
  case atStart => exact ⟨0, by omega, rfl, rfl⟩
  case round =>
    obtain ⟨j, hj, rfl, rfl⟩ := hrel
    obtain ⟨a, ha⟩ : ∃ a, 2 ^ j = a := ⟨_, rfl⟩
    have h1 := HL.out j hj
    rw [ha] at h1
    have HA := Lib.hid ha
    rw [ha]
    by_cases hlt : j < n
    · obtain ⟨d, hd⟩ : ∃ d, n - j = d + 1 := ⟨n - j - 1, by omega⟩
      have HD := Lib.hid hd
      have hd1 : d ≤ 1000000 := by omega
      rw [hd]
      clear ha hd
      have hd0 : (0 : Int) < ((d + 1 : Nat) : Int) := by omega
      go_wp2
      go_round
      case rel => exact ⟨j + 1, by omega, by rw [show n - (j + 1) = d by have := HD.out; omega], by rw [Nat.pow_succ, HA.out, Nat.mul_comm]; push_cast; rfl⟩
      case measure => simp [intOf]
    · have hj' : j = n := by omega
      subst hj'
      rw [Nat.sub_self]
      clear ha
      go_wp2
      go_ret
      exact ⟨ret_int (by rw [← HA.out]; simp), rfl⟩

theorem Try.info9 : (Try.prog.info? 9).map (fun i => (i.zero, i.size, i.bytes)) = some (some (.string ⟨#[]⟩), 1, 16) := by kernel_rfl

def Few (ts : List ByteArray) : Prop := ∀ t ∈ ts, t.size ≤ 4
theorem Few.push {ts : List ByteArray} {t : ByteArray} (h : Few ts) (ht : t.size ≤ 4) : Few (ts ++ [t]) := fun x hx => by
  rcases List.mem_append.1 hx with hx | hx
  · exact h x hx
  · simp at hx; rw [hx]; exact ht

set_option maxRecDepth 100000 in
set_option maxHeartbeats 2000000 in
theorem allDigits_any (w : World) :
    Calls Try.prog 29 #[] w fun e w' => ∃ (A : Option Addr) (c : Nat) (ts : List ByteArray), e = .returned (.slice A ts.length c) ∧ ts.length ≤ 256 ∧ Few ts ∧ Own w' (w.heap.size + 1) w'.heap.size A (ts.map Value.string) ∧ Below w.heap.size w w' := by
  obtain ⟨i0, hi0, hz0, hz1, hz2⟩ := info_parts Try.info9
  have hst : (w.alloc (.cells #[] 9)).ownsRow w.heap.size 9 1 (.slice (some ⟨w.heap.size, 0, none⟩) 0 0) 0 [] := World.ownsRow_lit w #[] 0 (Nat.le_refl _) (by simp [maxLen]) rfl
  have HST := Lib.hid (And.intro hst (World.grownBy_alloc w (.cells #[] 9) none))
  clear hst
  go_enter Try.func29, Try.ntmps29
  go_wp2
  go_loopw [1, 2] (fun v i wr => ∃ (k : Nat) (A : Option Addr) (c : Nat) (ts : List ByteArray), v = .slice A ts.length c ∧ i = .int .i64 k ∧ k ≤ 256 ∧ ts.length ≤ k ∧ Few ts ∧ wr.ownsRow w.heap.size 9 1 (.slice A ts.length c) ts.length (ts.map Value.string) ∧ w.grownBy wr none) (fun _ i _ => 256 - (intOf i).toNat)
  case atStart => exact ⟨0, _, 0, [], rfl, rfl, by omega, by simp, fun t ht => by simp at ht, HST.out.1, HST.out.2⟩
  case round =>
    obtain ⟨k, A, c, ts, rfl, rfl, hk, htk, hfew, hown, hgr⟩ := hrel
    clear HST
    have HF := Lib.hid hfew
    have HG := Lib.hid hgr
    have HO := Lib.hid hown
    have hgz := hgr.size
    clear hfew hgr hown
    by_cases hlt : k < 256
    · have hkI : (k : Int) < 256 := by omega
      go_wp2
      go_loop [3, 4] (fun v i => ∃ (s : ByteArray) (j : Nat), v = .string s ∧ i = .int .i64 j ∧ j ≤ 4 ∧ s.size ≤ j) (fun _ i => 4 - (intOf i).toNat)
      case atStart => exact ⟨ByteArray.empty, 0, rfl, rfl, by omega, by decide⟩
      case round =>
        obtain ⟨s, j, rfl, rfl, hj, hsj⟩ := hrel
        by_cases hj4 : j < 4
        · have hpw := lpower_any (2 * j) wr (by omega)
          obtain ⟨p, hp⟩ : ∃ p, 2 ^ (2 * j) = p := ⟨_, rfl⟩
          have hp1 : 1 ≤ p := by rw [← hp]; exact Nat.one_le_two_pow
          rw [hp] at hpw
          have hcast : ((2 * j : Nat) : Int) = 2 * (j : Int) := by push_cast; rfl
          rw [hcast] at hpw
          have HPW := Lib.hid hpw
          obtain ⟨m, hm⟩ : ∃ m : Nat, k / p = m := ⟨_, rfl⟩
          have hm256 : m ≤ 256 := by rw [← hm]; exact Nat.le_trans (Nat.div_le_self _ _) (by omega)
          have hq1 : (k : Int) / (p : Int) = (m : Int) := by rw [← hm]; push_cast; rfl
          have hq2 : (k : Int).tdiv (p : Int) = (m : Int) := by rw [← hm]; rfl
          obtain ⟨d, hd⟩ : ∃ d : Nat, m % 4 = d := ⟨_, rfl⟩
          have hd3 : d ≤ 3 := by omega
          have hm1 : (m : Int) % 4 = (d : Int) := by rw [← hd]; push_cast; rfl
          have hm2 : (m : Int).tmod 4 = (d : Int) := by rw [← hd]; rfl
          have hd0 : (0 : Int) ≤ (d : Int) := by omega
          have hd1 : (d : Int) ≤ (d : Int) + 1 := by omega
          have hd4 : (d : Int) + 1 ≤ 4 := by omega
          have hdN : ((d : Int) + 1).toNat = d + 1 := by omega
          have hm0 : (0 : Int) ≤ (m : Int) := by omega
          have hk0 : (0 : Int) ≤ (k : Int) := by omega
          clear hp hpw hcast hd hm
          go_wp2_with fail
          refine HPW.out.mono ?_
          rintro e w' ⟨rfl, rfl⟩
          go_wp2
          go_round
          case rel =>
            refine ⟨_, j + 1, rfl, by go_num, by omega, ?_⟩
            rw [ByteArray.size_append, ByteArray.size_extract]
            have : (⟨#[48, 49, 50, 51]⟩ : ByteArray).size = 4 := rfl
            rw [this]
            omega
          case measure => simp [intOf]; omega
        · have hs4 : s.size ≤ 4 := by omega
          have hj4' : decide (j < 4) = false := decide_eq_false hj4
          have hown := HO.out
          go_wp2_with (at_builtin; refine wpList_push rfl (.tmp 27) (.tmp 29) 24 rfl i0 (.string ⟨#[]⟩) 16 Try.underlying24 hi0 hz0 hz1 hz2 rfl (by decide) _ _ rfl hown [.string s] rfl rfl (by simp [Value.oneCell']) (by omega) (by omega) HG.out.size ?_)
          intro A' c' w5 hown5 hg5
          have HF5 := Lib.hid (And.intro hown5 (g_new HG.out hg5 (fun i hi => (hown.lt _ hi).1)))
          clear hown hown5 hg5
          go_wp2
          go_roundw
          case rel =>
            refine ⟨k + 1, A', c', ts ++ [s], by simp, by go_num, by omega, by simp; omega, HF.out.push hs4, ?_, ?_⟩
            · rw [List.length_append, List.map_append]; exact HF5.out.1
            · obtain ⟨t1, t2, t3, t4, t5⟩ := HF5.out.2; exact ⟨t1, t2, t3, t4, t5⟩
          case measure => simp [intOf]; omega
    · have hkI : decide (k < 256) = false := decide_eq_false hlt
      go_wp2
      go_ret
      exact ⟨A, c, ts, rfl, by omega, HF.out, own_rowS HO.out, below_g HG.out (Nat.le_refl _)⟩
end Go.Proofs.Ytlmcclbikljbhaa
