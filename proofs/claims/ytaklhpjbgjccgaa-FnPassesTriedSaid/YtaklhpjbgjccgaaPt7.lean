/- The draws and the walks of the laws FnPassesTried and FnFewestPasses. No condition. -/
import Derived.Test.YtaklhpjbgjccgaaPt5
import Derived.Test.YtaklhpjbgjccgaaS10
import Derived.Test.YtaklhpjbgjccgaaEq
import Derived.Test.YtaklhpjbgjccgaaRd2
namespace Go.Proofs.Ytaklhpjbgjccgaa
open Go.RowKit

set_option maxRecDepth 100000 in
theorem drawFewestPasses_any (A : Option Addr) (c : Nat) (zs : List Int) (w : World) (hr : Own w 0 w.heap.size A (zs.map (Value.int .u8))) (hx : zs.length ≤ c ∧ c ≤ maxLen ∧ ∀ z ∈ zs, (Lit.int .u8 z).wf = true) :
    Calls Try.prog 37 #[.slice A zs.length c] w fun e w' => ∃ (A : Option Addr) (c : Nat) (ds : List Int) (k : Int), e = .returned (.tuple #[.slice A ds.length c, .int .i64 k]) ∧ ds.length ≤ 10 ∧ ds.length ≤ c ∧ 1 ≤ k ∧ k ≤ 5 ∧ Own w' 0 w'.heap.size A (ds.map (Value.int .i64)) ∧ Below w.heap.size w w' := by
  have H := Lib.hid hx
  clear hx
  go_enter Try.func37, Try.ntmps37
  go_wp2_with fail
  refine (newReader_any _ _ _ _ hr H.out).mono ?_
  rintro e w1 ⟨rfl, hrd, hb1⟩
  go_wp2_with fail
  refine (someRow_any _ 0 _ hrd (by omega)).mono ?_
  rintro e w2 ⟨A2, c2, ds, rfl, h10, hc2, ho2, ⟨q2, hq2, hrd2⟩, hg2⟩
  have hgl := hrd.lt
  go_wp2_with fail
  refine (one_lit _ q2 w2 hrd2 (by omega) [2, 3, 4, 2, 1, 5] (by decide) (by decide) 6 rfl _ rfl).mono ?_
  rintro e w3 ⟨k, rfl, hk, hrd3, hg3⟩
  have hz2 := hg2.size
  have hz3 := hg3.size
  have ho3 : Own w3 0 w2.heap.size A2 (ds.map (Value.int .i64)) := (ho2.apart (Nat.le_refl _) hg3 (fun i hi => by injection hi with hi; omega)).row
  have hk' : 1 ≤ k ∧ k ≤ 5 := by simp at hk; omega
  clear hk
  go_wp2_with fail
  go_ret2
  exact ⟨A2, c2, ds, k, rfl, h10, hc2, hk'.1, hk'.2, ho3.more hz3, hb1.grown (grown_trans hg2 hg3) hb1.size (fun k hk => by injection hk with hk; omega)⟩

set_option maxRecDepth 100000 in
theorem drawPassesTried_any (A : Option Addr) (c : Nat) (zs : List Int) (w : World) (hr : Own w 0 w.heap.size A (zs.map (Value.int .u8))) (hx : zs.length ≤ c ∧ c ≤ maxLen ∧ ∀ z ∈ zs, (Lit.int .u8 z).wf = true) :
    Calls Try.prog 35 #[.slice A zs.length c] w fun e w' => ∃ (A : Option Addr) (c : Nat) (ds : List Int) (k : Int), e = .returned (.tuple #[.slice A ds.length c, .int .i64 k]) ∧ ds.length ≤ 10 ∧ ds.length ≤ c ∧ 1 ≤ k ∧ k ≤ 5 ∧ Own w' 0 w'.heap.size A (ds.map (Value.int .i64)) ∧ Below w.heap.size w w' := by
  have H := Lib.hid hx
  clear hx
  go_enter Try.func35, Try.ntmps35
  go_wp2_with fail
  refine (newReader_any _ _ _ _ hr H.out).mono ?_
  rintro e w1 ⟨rfl, hrd, hb1⟩
  have hgl := hrd.lt
  go_wp2_with fail
  refine (one_lit _ 0 w1 hrd (by omega) [4, 3, 2, 1, 0, 5] (by decide) (by decide) 6 rfl _ rfl).mono ?_
  rintro e w1' ⟨n, rfl, hn, hrd1, hg1⟩
  have hn' : 0 ≤ n ∧ n ≤ 5 := by simp at hn; omega
  clear hn
  have hz1 := hg1.size
  go_wp2_with fail
  refine (rowOf_any _ _ n w1' hrd1 (by omega) (by omega)).mono ?_
  rintro e w2 ⟨A2, c2, ds, rfl, hdl, hc2, ho2, ⟨q2, hq2, hrd2⟩, hg2⟩
  have h10 : ds.length ≤ 10 := by omega
  have hq2' : q2 ≤ 1000 := by omega
  clear hdl hq2
  go_wp2_with fail
  refine (one_lit _ q2 w2 hrd2 (by omega) [2, 3, 4, 2, 1, 5] (by decide) (by decide) 6 rfl _ rfl).mono ?_
  rintro e w3 ⟨k, rfl, hk, hrd3, hg3⟩
  have hz2 := hg2.size
  have hz3 := hg3.size
  have ho3 : Own w3 0 w2.heap.size A2 (ds.map (Value.int .i64)) := (ho2.apart (Nat.le_refl _) hg3 (fun i hi => by injection hi with hi; omega)).row
  have hk' : 1 ≤ k ∧ k ≤ 5 := by simp at hk; omega
  clear hk
  go_wp2_with fail
  go_ret2
  exact ⟨A2, c2, ds, k, rfl, h10, hc2, hk'.1, hk'.2, ho3.more hz3, hb1.grown (grown_trans hg1 (grown_trans hg2 hg3)) hb1.size (fun k hk => by injection hk with hk; omega)⟩

/-! What both laws say of the numbers. -/
theorem passN_more : ∀ n : Fin 10, ∀ k : Fin 5, 2 ≤ k.1 → passN n.1 (k.1 + 1) ≤ passN n.1 k.1 := by decide +kernel
theorem tried_few {zs : List Int} {k : Int} (h : 0 ≤ triedV zs k) : fewN zs k = triedV zs k := by
  by_cases hc : (rowB 4 zs && inR k 2 4) = true
  · simp only [Bool.and_eq_true] at hc
    simp [triedV, fewN, hc.1, hc.2, row9_of hc.1]
  · unfold triedV at h
    rw [if_neg hc] at h; omega
theorem few_yes {zs : List Int} {k : Int} (h : 0 ≤ fewN zs k) : rowB 9 zs = true ∧ (2 ≤ k ∧ k ≤ 4) ∧ fewN zs k = (passN (runsNat zs) k.toNat : Int) := by
  unfold fewN at h ⊢
  by_cases hc : (rowB 9 zs && inR k 2 4) = true
  · rw [if_pos hc]
    simp only [Bool.and_eq_true] at hc
    exact ⟨hc.1, by simpa [inR] using hc.2, rfl⟩
  · rw [if_neg hc] at h; omega
theorem few_more {zs : List Int} {k : Int} (h : 0 ≤ fewN zs k) (h2 : 0 ≤ fewN zs (k + 1)) : fewN zs (k + 1) ≤ fewN zs k := by
  obtain ⟨hv, hk, he⟩ := few_yes h
  obtain ⟨-, hk2, he2⟩ := few_yes h2
  rw [he, he2, show (k + 1).toNat = k.toNat + 1 from by omega]
  have := passN_more ⟨runsNat zs, by have := runsNat_le hv; omega⟩ ⟨k.toNat, by omega⟩ (by show 2 ≤ k.toNat; omega)
  exact_mod_cast this
theorem passN_nil {n k : Nat} (h : passN n k = 0) : n ≤ 1 := by
  unfold passN at h
  split at h
  · assumption
  · split at h <;> (try split at h) <;> (try split at h) <;> omega
theorem few_none {zs : List Int} {k : Int} (h : 0 ≤ fewN zs k) : (fewN zs k == 0) = eqI zs (tab zs.length fun j => (j : Int)) := by
  obtain ⟨hv, hk, he⟩ := few_yes h
  have hl := rowB_len hv
  obtain ⟨kk, rfl⟩ := Int.eq_ofNat_of_zero_le (show 0 ≤ k by omega)
  rw [he]
  simp only [Int.toNat_natCast]
  by_cases hz : passN (runsNat zs) kk = 0
  · have hs := sorts (zs := zs) (k := kk) (by omega) (by omega) hv
    rw [hz] at hs
    have hs' : zs = tab zs.length fun j => (j : Int) := hs
    rw [hz, ← hs']
    simp [eqI]
  · rw [show (((passN (runsNat zs) kk : Nat) : Int) == 0) = false from beq_eq_false_iff_ne.2 (by omega)]
    unfold eqI
    refine (decide_eq_false fun e => hz ?_).symm
    have h1 : runsNat zs ≤ 1 := by
      unfold runsNat
      split
      · omega
      · rw [e, tab_length, runNo_goal hl (show zs.length - 1 < zs.length by omega)]; omega
    unfold passN
    rw [if_pos h1]

set_option maxRecDepth 100000 in
set_option maxHeartbeats 1000000 in
theorem passesTried_law (A : Option Addr) (c : Nat) (zs : List Int) (w : World) (hr : Own w 0 w.heap.size A (zs.map (Value.int .u8))) (hx : zs.length ≤ c ∧ c ≤ maxLen ∧ ∀ z ∈ zs, (Lit.int .u8 z).wf = true) :
    Calls Try.prog 8 #[.slice A zs.length c] w fun e w' => e = .returned (.bool true) ∧ Below w.heap.size w w' := by
  have hl : zs.length ≤ 9223372036854775807 := by have := hx.1; have := hx.2.1; unfold maxLen at this; omega
  have HX := Lib.hid hx
  clear hx
  by_cases h20 : zs.length ≤ 1048576
  · go_enter Try.func8, Try.ntmps8
    go_wp2_with fail
    refine (drawPassesTried_any _ _ _ _ hr HX.out).mono ?_
    rintro e w1 ⟨B, d, ds, k, rfl, h10, hdc, hk1, hk5, ho, hb1⟩
    obtain ⟨q, hq⟩ : ∃ q, triedV ds k = q := ⟨_, rfl⟩
    have HQ := Lib.hid hq
    have hqq : (q != q) = false := by simp
    have hqe : (q == q) = true := by simp
    clear hq
    go_wp2_with fail
    refine (impTried_any _ _ _ _ _ ho hdc).mono ?_
    rintro e w2 ⟨rfl, hb2⟩
    rw [HQ.out]
    have ho2 := ho.past hb2
    go_wp2_with fail
    refine (specTried_any _ _ _ _ _ ho2 hdc (by omega)).mono ?_
    rintro e w3 ⟨rfl, hb3⟩
    rw [HQ.out]
    have ho3 := ho2.past hb3
    have hb13 := (hb1.trans (hb2.mono hb1.size)).trans (hb3.mono (by have := hb1.size; have := hb2.size; omega))
    by_cases hv : 0 ≤ q
    · have hf : fewN ds k = q := by have := tried_few (zs := ds) (k := k) (by rw [HQ.out]; exact hv); rw [this]; exact HQ.out
      have HF := Lib.hid hf
      have hq0 : decide (q < 0) = false := decide_eq_false (by omega)
      clear hf hv
      go_wp2_with fail
      refine (impFewest_any _ _ _ _ _ ho3 hdc).mono ?_
      rw [HF.out]
      rintro e w4 ⟨rfl, hb4⟩
      go_wp2_with fail
      go_ret
      exact ⟨rfl, hb13.trans (hb4.mono hb13.size)⟩
    · have hneg : decide (q < 0) = true := decide_eq_true (by omega)
      clear hv
      go_wp2_with fail
      refine (specTried_any _ _ _ _ _ ho3 hdc (by omega)).mono ?_
      rintro e w4 ⟨rfl, hb4⟩
      rw [HQ.out]
      go_wp2_with fail
      go_ret
      exact ⟨rfl, hb13.trans (hb4.mono hb13.size)⟩
  · go_enter Try.func8, Try.ntmps8
    go_wp2
    go_ret
    exact ⟨rfl, Below.refl _ _⟩

set_option maxRecDepth 100000 in
set_option maxHeartbeats 2000000 in
theorem fewestPasses_law (A : Option Addr) (c : Nat) (zs : List Int) (w : World) (hr : Own w 0 w.heap.size A (zs.map (Value.int .u8))) (hx : zs.length ≤ c ∧ c ≤ maxLen ∧ ∀ z ∈ zs, (Lit.int .u8 z).wf = true) :
    Calls Try.prog 9 #[.slice A zs.length c] w fun e w' => e = .returned (.bool true) ∧ Below w.heap.size w w' := by
  have hl : zs.length ≤ 9223372036854775807 := by have := hx.1; have := hx.2.1; unfold maxLen at this; omega
  have HX := Lib.hid hx
  clear hx
  by_cases h20 : zs.length ≤ 1048576
  · go_enter Try.func9, Try.ntmps9
    go_wp2_with fail
    refine (drawFewestPasses_any _ _ _ _ hr HX.out).mono ?_
    rintro e w1 ⟨B, d, ds, k, rfl, h10, hdc, hk1, hk5, ho, hb1⟩
    obtain ⟨q, hq⟩ : ∃ q, fewN ds k = q := ⟨_, rfl⟩
    have HQ := Lib.hid hq
    have hqq : (q != q) = false := by simp
    have hqe : (q == q) = true := by simp
    clear hq
    go_wp2_with fail
    refine (impFewest_any _ _ _ _ _ ho hdc).mono ?_
    rintro e w2 ⟨rfl, hb2⟩
    rw [HQ.out]
    have ho2 := ho.past hb2
    go_wp2_with fail
    refine (specFewest_any _ _ _ _ _ ho2 (by omega)).mono ?_
    rintro e w3 ⟨rfl, hb3⟩
    rw [HQ.out]
    have ho3 := ho2.past hb3
    have hb13 := (hb1.trans (hb2.mono hb1.size)).trans (hb3.mono (by have := hb1.size; have := hb2.size; omega))
    by_cases hv : 0 ≤ q
    · have hn := few_none (zs := ds) (k := k) (by rw [HQ.out]; exact hv)
      rw [HQ.out] at hn
      obtain ⟨bl, hbl⟩ : ∃ bl, eqI ds (tab ds.length fun j => (j : Int)) = bl := ⟨_, rfl⟩
      rw [hbl] at hn
      have HBL := Lib.hid hbl
      obtain ⟨t, ht⟩ : ∃ t, triedV ds k = t := ⟨_, rfl⟩
      have htq : 0 ≤ t → t = q := fun h => by
        have := tried_few (zs := ds) (k := k) (by rw [ht]; omega)
        rw [← ht, ← this]; exact HQ.out
      obtain ⟨m, hm⟩ : ∃ m, fewN ds (k + 1) = m := ⟨_, rfl⟩
      have hmq : 0 ≤ m → m ≤ q := fun h => by
        have := few_more (zs := ds) (k := k) (by rw [HQ.out]; exact hv) (by rw [hm]; omega)
        rw [hm, HQ.out] at this; exact this
      have HT := Lib.hid ht
      have HM := Lib.hid hm
      have hq0 : decide (q < 0) = false := decide_eq_false (by omega)
      have hbb : (bl == bl) = true := by simp
      have hkw : IntKind.i64.wrap (k + 1) = k + 1 := IntWalk.i64_in _ (by omega)
      have hd9 : ds.length ≤ 1000 := by omega
      have HE : ∀ (W : World) (A6 : Option Addr) (c6 : Nat), Ints W W.heap.size B ds → Ints W W.heap.size A6 (tab ds.length fun j => (j : Int)) → Calls Try.prog 19 #[.slice B ds.length d, .slice A6 ds.length c6] W fun e w' => e = .returned (.bool bl) ∧ ∃ n, w' = W.drewN n := by
        intro W A6 c6 h1 h2
        have h := equalInts_any B A6 d c6 ds (tab ds.length fun j => (j : Int)) W h1 h2 (by omega)
        rw [tab_length, HBL.out] at h
        exact h
      have HEE := Lib.hid HE
      clear hv hbl ht hm HE
      have HTQ := Lib.hid htq
      have HMQ := Lib.hid hmq
      clear htq hmq
      go_wp2_with fail
      refine (impTried_any _ _ _ _ _ ho3 hdc).mono ?_
      rw [HT.out]
      rintro e w4 ⟨rfl, hb4⟩
      have ho4 := ho3.past hb4
      have hb14 := hb13.trans (hb4.mono hb13.size)
      clear ho3 hb13 hb4 ho ho2
      go_wp2_with fail
      refine (impFewest_any _ _ _ _ _ ho4 hdc).mono ?_
      rw [HM.out]
      rintro e w5 ⟨rfl, hb5⟩
      have ho5 := ho4.past hb5
      have hb15 := hb14.trans (hb5.mono hb14.size)
      clear ho4 hb14 hb5
      by_cases htn : t < 0
      · have htd : decide (t < 0) = true := decide_eq_true htn
        clear htn
        by_cases hmn : m < 0
        · have hmd : decide (m < 0) = true := decide_eq_true hmn
          clear hmn
          go_wp2_with fail
          refine (inOrder_any ds.length _ hd9).mono ?_
          rintro e w6 ⟨A6, c6, rfl, hc6, ho6, hb6⟩
          have ho6' := ho5.past hb6
          have hb16 := hb15.trans (hb6.mono hb15.size)
          go_wp2_with fail
          refine (HEE.out _ _ _ ho6' ho6.row).mono ?_
          rintro e w7 ⟨rfl, n7, rfl⟩
          go_wp2_with fail
          go_ret
          exact ⟨rfl, below_drewN hb16 n7⟩
        · have hmd : decide (m < 0) = false := decide_eq_false hmn
          have hml : decide (m ≤ q) = true := decide_eq_true (HMQ.out (by omega))
          clear hmn
          go_wp2_with fail
          refine (inOrder_any ds.length _ hd9).mono ?_
          rintro e w6 ⟨A6, c6, rfl, hc6, ho6, hb6⟩
          have ho6' := ho5.past hb6
          have hb16 := hb15.trans (hb6.mono hb15.size)
          go_wp2_with fail
          refine (HEE.out _ _ _ ho6' ho6.row).mono ?_
          rintro e w7 ⟨rfl, n7, rfl⟩
          go_wp2_with fail
          go_ret
          exact ⟨rfl, below_drewN hb16 n7⟩
      · have htd : decide (t < 0) = false := decide_eq_false htn
        obtain rfl := HTQ.out (by omega)
        clear htn
        by_cases hmn : m < 0
        · have hmd : decide (m < 0) = true := decide_eq_true hmn
          clear hmn
          go_wp2_with fail
          refine (inOrder_any ds.length _ hd9).mono ?_
          rintro e w6 ⟨A6, c6, rfl, hc6, ho6, hb6⟩
          have ho6' := ho5.past hb6
          have hb16 := hb15.trans (hb6.mono hb15.size)
          go_wp2_with fail
          refine (HEE.out _ _ _ ho6' ho6.row).mono ?_
          rintro e w7 ⟨rfl, n7, rfl⟩
          go_wp2_with fail
          go_ret
          exact ⟨rfl, below_drewN hb16 n7⟩
        · have hmd : decide (m < 0) = false := decide_eq_false hmn
          have hml : decide (m ≤ t) = true := decide_eq_true (HMQ.out (by omega))
          clear hmn
          go_wp2_with fail
          refine (inOrder_any ds.length _ hd9).mono ?_
          rintro e w6 ⟨A6, c6, rfl, hc6, ho6, hb6⟩
          have ho6' := ho5.past hb6
          have hb16 := hb15.trans (hb6.mono hb15.size)
          go_wp2_with fail
          refine (HEE.out _ _ _ ho6' ho6.row).mono ?_
          rintro e w7 ⟨rfl, n7, rfl⟩
          go_wp2_with fail
          go_ret
          exact ⟨rfl, below_drewN hb16 n7⟩
    · have hneg : decide (q < 0) = true := decide_eq_true (by omega)
      clear hv
      go_wp2_with fail
      refine (specFewest_any _ _ _ _ _ ho3 (by omega)).mono ?_
      rintro e w4 ⟨rfl, hb4⟩
      rw [HQ.out]
      go_wp2_with fail
      go_ret
      exact ⟨rfl, hb13.trans (hb4.mono hb13.size)⟩
  · go_enter Try.func9, Try.ntmps9
    go_wp2
    go_ret
    exact ⟨rfl, Below.refl _ _⟩
end Go.Proofs.Ytaklhpjbgjccgaa
