/- The walks of the laws FnGreedyStamps and FnFirstWaste. No condition. -/
import Derived.Test.YtookdmdlpglbcabYo
import Derived.Test.YtookdmdlpglbcabYe
namespace Go.Proofs.Ytookdmdlpglbcab
open Go.RowKit

theorem specGS_ret (A : Option Addr) (c : Nat) (zs : List Int) (r : Int) (w : World) (hr : Ints w w.heap.size A zs) (hl : zs.length ≤ 9000000000000000000) (b : Int) (hb : greV zs r = b) :
    Calls Try.prog 16 #[.slice A zs.length c, .int .i64 r] w fun e w' => e = .returned (.int .i64 b) ∧ Below w.heap.size w w' := by
  rw [← hb]; exact specGreedyStamps_any A c zs r w hr hl
theorem impGS_ret (A : Option Addr) (c : Nat) (zs : List Int) (r : Int) (w : World) (hr : Ints w w.heap.size A zs) (b : Int) (hb : greV zs r = b) :
    Calls Try.prog 15 #[.slice A zs.length c, .int .i64 r] w fun e w' => e = .returned (.int .i64 b) ∧ Below w.heap.size w w' := by
  rw [← hb]; exact impGreedyStamps_any A c zs r w hr
theorem specFW_ret (A : Option Addr) (c : Nat) (zs : List Int) (w : World) (hr : Ints w w.heap.size A zs) (hl : zs.length ≤ 9000000000000000000) (b : Int) (hb : fwaV zs = b) :
    Calls Try.prog 19 #[.slice A zs.length c] w fun e w' => e = .returned (.int .i64 b) ∧ Below w.heap.size w w' := by
  rw [← hb]; exact specFirstWaste_any A c zs w hr hl
theorem impFW_ret (A : Option Addr) (c : Nat) (zs : List Int) (w : World) (hr : Ints w w.heap.size A zs) (b : Int) (hb : fwaV zs = b) :
    Calls Try.prog 17 #[.slice A zs.length c] w fun e w' => e = .returned (.int .i64 b) ∧ Below w.heap.size w w' := by
  rw [← hb]; exact impFirstWaste_any A c zs w hr
theorem greV_parts {zs : List Int} {r : Int} (h : 0 ≤ greV zs r) : stampsB zs = true ∧ ∃ m : Nat, r = m ∧ m ≤ 140 ∧ greV zs r = gr zs m := by
  unfold greV at h ⊢
  split at h
  · rename_i hc
    have hc' := hc
    simp only [Bool.and_eq_true, inRI] at hc
    obtain ⟨m, rfl⟩ := Int.eq_ofNat_of_zero_le hc.2.1
    exact ⟨hc.1, m, rfl, by omega, by rw [if_pos hc']⟩
  · omega
theorem fwaV_bd (zs : List Int) : -1 ≤ fwaV zs ∧ fwaV zs ≤ 140 := by
  unfold fwaV
  split
  · rcases waste_is zs with ⟨h, _⟩ | ⟨r, h, hr, _⟩ <;> rw [h] <;> omega
  · omega

set_option maxRecDepth 100000 in
set_option maxHeartbeats 4000000 in
theorem fnGreedyStamps_law (A : Option Addr) (c : Nat) (zs : List Int) (w : World) (hr : Own w 0 w.heap.size A (zs.map (Value.int .u8))) (hx : zs.length ≤ c ∧ c ≤ maxLen ∧ ∀ z ∈ zs, (Lit.int .u8 z).wf = true) :
    Calls Try.prog 4 #[.slice A zs.length c] w fun e w' => e = .returned (.bool true) ∧ Below w.heap.size w w' := by
  have hl : zs.length ≤ 9223372036854775807 := by have := hx.1; have := hx.2.1; unfold maxLen at this; omega
  have HX := Lib.hid hx
  clear hx
  by_cases h20 : zs.length ≤ 1048576
  · go_enter Try.func4, Try.ntmps4
    go_wp2_with fail
    refine (drawGreedyStamps_any _ _ _ _ hr HX.out).mono ?_
    rintro e w1 ⟨B, d, rs, rate, rfl, hrb, h6, hdc, hsm, ho, hb1⟩
    obtain ⟨hrb1, hrb2⟩ := hrb
    obtain ⟨q, hq⟩ : ∃ q, greV rs rate = q := ⟨_, rfl⟩
    have HQ := Lib.hid hq
    clear hsm hq
    go_wp2_with fail
    refine (impGS_ret _ _ _ _ _ ho _ HQ.out).mono ?_
    rintro e w2 ⟨rfl, hb2⟩
    have ho2 := ho.past hb2
    go_wp2_with fail
    refine (specGS_ret _ _ _ _ _ ho2 (by omega) _ HQ.out).mono ?_
    rintro e w3 ⟨rfl, hb3⟩
    have ho3 := ho2.past hb3
    have hb13 := (hb1.trans (hb2.mono hb1.size))
    have hb13 := hb13.trans (hb3.mono hb13.size)
    have hqq : (q != q) = false := by simp
    clear hb1 hb2 hb3 ho ho2
    by_cases hq0 : q < 0
    · go_wp2_with fail
      refine (specGS_ret _ _ _ _ _ ho3 (by omega) _ HQ.out).mono ?_
      rintro e w4 ⟨rfl, hb4⟩
      have hqe : (q == q) = true := by simp
      go_wp2_with fail
      go_ret
      exact ⟨rfl, hb13.trans (hb4.mono hb13.size)⟩
    · obtain ⟨hv, m, rfl, hm, hqm⟩ := greV_parts (zs := rs) (r := rate) (by rw [HQ.out]; omega)
      rw [HQ.out] at hqm
      have hge := gr_ge (fun s hs => (stamp_mem hv hs).1) m (by rw [← hqm]; omega)
      rw [← hqm] at hge
      obtain ⟨f, hf⟩ : ∃ f, fw rs m = f := ⟨_, rfl⟩
      have HF := Lib.hid (show fewV rs (m : Int) = f by rw [fewV_yes hv (inRI.2 (by omega)), hf])
      have hws := waste_is rs
      obtain ⟨t, ht⟩ : ∃ t, fwaV rs = t := ⟨_, rfl⟩
      rw [← fwaV_yes hv, ht] at hws
      have HT := Lib.hid ht
      have hcase : (0 ≤ t ∧ t ≤ (m : Int)) ∨ q = f := by
        rcases hws with ⟨_, h⟩ | ⟨r, hr, _, _, h⟩
        · exact .inr (by rw [hqm, ← hf]; exact h m hm)
        · rcases Nat.lt_or_ge m r with h2 | h2
          · exact .inr (by rw [hqm, ← hf]; exact h m h2)
          · exact .inl (by omega)
      rw [hf] at hge
      obtain ⟨hf0, hfq⟩ := hge
      clear hv hqm hf hws ht
      go_wp2_with fail
      refine (impFS_ret _ _ _ _ _ ho3 _ HF.out).mono ?_
      rintro e w4 ⟨rfl, hb4⟩
      have ho4 := ho3.past hb4
      go_wp2_with fail
      refine (impFW_ret _ _ _ _ ho4 _ HT.out).mono ?_
      rintro e w5 ⟨rfl, hb5⟩
      have HB := Lib.hid (show Below w.heap.size w w5 from by have h := hb13.trans (hb4.mono hb13.size); exact h.trans (hb5.mono h.size))
      have hfq' : f ≤ q := hfq
      clear hb13 hb4 hb5 ho3 ho4 hqq
      by_cases hc : 0 ≤ t ∧ t ≤ (m : Int)
      · obtain ⟨hc1, hc2⟩ := hc
        clear hcase
        go_wp2
        go_ret
        exact ⟨rfl, HB.out⟩
      · have hqf : q = f := hcase.resolve_left hc
        have hqfb : (q == f) = true := beq_iff_eq.2 hqf
        clear hcase hqf
        by_cases ht0 : 0 ≤ t
        · have htm : ¬ t ≤ (m : Int) := fun h => hc ⟨ht0, h⟩
          clear hc
          go_wp2
          go_ret
          exact ⟨rfl, HB.out⟩
        · clear hc
          go_wp2
          go_ret
          exact ⟨rfl, HB.out⟩
  · go_enter Try.func4, Try.ntmps4
    go_wp2
    go_ret
    exact ⟨rfl, Below.refl _ _⟩
end Go.Proofs.Ytookdmdlpglbcab
