/- Bits in the laws of calls. No condition. -/
import Derived.Test.YtonnffilcmlodaaV8p
import Derived.Test.YtonnffilcmlodaaV7e
namespace Go.Proofs.Ytonnffilcmlodaa
open Go.RowKit

theorem andNot_sub (x y : Nat) (h : ∀ k, x.testBit k = true → y.testBit k = true) : bits .andNot .i64 (x : Int) (y : Int) = 0 := by
  have h0 : (BitVec.ofInt 64 (x : Int) &&& ~~~ BitVec.ofInt 64 (y : Int)) = 0#64 := by
    apply BitVec.eq_of_getLsbD_eq
    intro i hi
    rw [BitVec.ofInt_natCast, BitVec.ofInt_natCast]
    simp only [BitVec.getLsbD_and, BitVec.getLsbD_not, BitVec.getLsbD_ofNat, hi, decide_true, Bool.true_and]
    have := h i
    cases hx : x.testBit i
    · simp
    · rw [this hx]; simp
  show IntKind.i64.wrap ((BitVec.ofInt 64 (x : Int) &&& ~~~ BitVec.ofInt 64 (y : Int)).toNat : Int) = 0
  rw [h0]
  rfl
theorem bit_one {x k : Nat} (h : x.testBit k = true) : x / 2 ^ k % 2 = 1 := by
  rw [Nat.testBit_eq_decide_div_mod_eq] at h
  simpa using h
set_option maxRecDepth 100000 in
theorem lbit_any (x j r : Nat) (w : World) (hx : x ≤ 1000000) (hj : j ≤ 20) (hr : x / 2 ^ j % 2 = r) :
    Calls Try.prog 21 #[.int .i64 (x : Int), .int .i64 (j : Int)] w fun e w' => e = .returned (.int .i64 (r : Int)) ∧ w = w' := by
  have HP := Lib.hid (fun X => lpower_any j X hj)
  have hle : 2 ^ j ≤ 1048576 := Nat.le_trans (Nat.pow_le_pow_right (by omega) hj) (by decide)
  have hpos : 1 ≤ 2 ^ j := Nat.one_le_two_pow
  obtain ⟨pw, hpw⟩ : ∃ pw, 2 ^ j = pw := ⟨_, rfl⟩
  rw [hpw] at HP hr hle hpos
  obtain ⟨d, hd⟩ : ∃ d, x / pw = d := ⟨_, rfl⟩
  have hdx : d ≤ x := by rw [← hd]; exact Nat.div_le_self _ _
  rw [hd] at hr
  have hrb : r ≤ 1 := by omega
  have e1 : (x : Int).tdiv (pw : Int) = (d : Int) := by rw [← hd]; rfl
  have e2 : (d : Int).tmod 2 = (r : Int) := by rw [← hr]; rfl
  have e3 : (x : Int) / (pw : Int) = (d : Int) := by rw [← hd]; rfl
  have e4 : (d : Int) % 2 = (r : Int) := by rw [← hr]; rfl
  have e5 : ((pw : Int) == 0) = false := beq_eq_false_iff_ne.2 (by omega)
  clear hd hr hpw hj
  go_enter Try.func21, Try.ntmps21
  go_wp2_with fail
  refine (HP.out _).mono ?_
  rintro e w1 ⟨rfl, rfl⟩
  go_wp2
  go_ret
  exact ⟨rfl, rfl⟩
theorem enough {m : Nat} {rs : List (List Int)} (hv : callsB m rs = true) (hd : DrCs m rs) (h : ∀ i, i < m → (kn m rs).getD i 0 = allN m) : fewC m ≤ rs.length := by
  have hb := callsB_of hv
  have h2 := twoC_of hv
  have hm1 : 1 ≤ m := by omega
  have hm7 : m ≤ 7 := by omega
  rcases hd with (hd | ⟨m', he, h1, h7, hc⟩) | hd
  · have hlow := low hm1 h2 h
    unfold fewC
    split
    · omega
    · split
      · omega
      · split <;> omega
  · obtain rfl : m = m' := by omega
    rcases hc with rfl | rfl
    · rw [(cf_all ⟨m, by omega⟩ h1).2.1]; exact Nat.le_refl _
    · by_cases h2' : 2 ≤ m
      · obtain ⟨_, i, hi, hne⟩ := cf_tail ⟨m, by omega⟩ h2'
        exact absurd (h i.val hi) hne
      · have : m = 1 := by omega
        subst this
        exact Nat.zero_le _
  · rw [hv] at hd; cases hd
/-- What is known, bit for bit. -/
def BitsAt (m : Nat) (V L : List Int) : Prop := ∀ k, k < m → ∃ x y : Nat, V[k]? = some (x : Int) ∧ L[k]? = some (y : Int) ∧ x < 128 ∧ y < 128 ∧ x.testBit k = true ∧ ∀ j, y.testBit j = true → x.testBit j = true
theorem kn_nat {m : Nat} (hm : m ≤ 7) (cs : List (List Int)) {k : Nat} (hk : k < m) : ∃ x : Nat, (kn m cs)[k]? = some (x : Int) ∧ x < 128 ∧ ∀ j, kb (kn m cs) k j = x.testBit j := by
  have hs := kn_sets m cs
  have hkl : k < (kn m cs).length := by rw [hs.1]; exact hk
  have hb := hs.2 _ (List.getElem_mem hkl)
  have hp : 2 ^ m ≤ 128 := Nat.le_trans (Nat.pow_le_pow_right (by omega) hm) (by decide)
  refine ⟨((kn m cs)[k]).toNat, by rw [List.getElem?_eq_getElem hkl]; congr 1; omega, by omega, fun j => ?_⟩
  unfold kb
  rw [List.getD_eq_getElem?_getD, List.getElem?_eq_getElem hkl]
  rfl
theorem bits_same {m : Nat} (hm : m ≤ 7) {cs : List (List Int)} (h2 : TwoC m cs) : BitsAt m (kn m cs) (kn m cs) := fun k hk => by
  obtain ⟨x, h1, h3, h4⟩ := kn_nat hm cs hk
  exact ⟨x, x, h1, h1, h3, h3, by rw [← h4]; exact kn_self h2 hk, fun j h => h⟩
theorem bits_more {m : Nat} (hm : m ≤ 7) {cs : List (List Int)} {c : List Int} (h2 : TwoC m (cs ++ [c])) : BitsAt m (kn m (cs ++ [c])) (kn m cs) := fun k hk => by
  obtain ⟨x, h1, h3, h4⟩ := kn_nat hm (cs ++ [c]) hk
  obtain ⟨y, g1, g3, g4⟩ := kn_nat hm cs hk
  exact ⟨x, y, h1, g1, h3, g3, by rw [← h4]; exact kn_self h2 hk, fun j h => by rw [← h4]; exact kn_more cs c h2 k j (by rw [g4]; exact h)⟩
end Go.Proofs.Ytonnffilcmlodaa
