/- The walk of the law FnReachOf. No condition. -/
import Derived.Test.YtookdmdlpglbcabYo
import Derived.Test.YtookdmdlpglbcabYk2
import Derived.Test.YtookdmdlpglbcabYy
namespace Go.Proofs.Ytookdmdlpglbcab
open Go.RowKit

theorem specRO_ret (A : Option Addr) (c : Nat) (zs : List Int) (r : Int) (w : World) (hr : Ints w w.heap.size A zs) (hl : zs.length ≤ 9000000000000000000) (b : Int) (hb : reaV zs r = b) :
    Calls Try.prog 22 #[.slice A zs.length c, .int .i64 r] w fun e w' => e = .returned (.int .i64 b) ∧ Below w.heap.size w w' := by
  rw [← hb]; exact specReachOf_any A c zs r w hr hl
theorem impRO_ret (A : Option Addr) (c : Nat) (zs : List Int) (r : Int) (w : World) (hr : Ints w w.heap.size A zs) (b : Int) (hb : reaV zs r = b) :
    Calls Try.prog 21 #[.slice A zs.length c, .int .i64 r] w fun e w' => e = .returned (.int .i64 b) ∧ Below w.heap.size w w' := by
  rw [← hb]; exact impReachOf_any A c zs r w hr
theorem reachV_72 {v : List Int} (hv : stampsB v = true) {m : Nat} (h6 : m ≤ 6) : reachV v m ≤ 72 := by
  have hR := reach_found (fun s hs => stamp_mem hv hs) h6
  rcases Nat.lt_or_ge 72 (reachV v m) with h | h
  · have h1 := hR.1 73 (by omega) (by omega)
    have h2 := good_past (v := v) (most := m) (fun s hs => (stamp_mem hv hs).1) (fun s hs => (stamp_mem hv hs).2) (by omega) (r := 73) (by omega)
    rw [h1] at h2; cases h2
  · exact h
theorem reaV_parts {zs : List Int} {r : Int} (h : 0 ≤ reaV zs r) : stampsB zs = true ∧ ∃ m : Nat, r = m ∧ 1 ≤ m ∧ m ≤ 6 ∧ reaV zs r = reachV zs m := by
  unfold reaV at h ⊢
  split at h
  · rename_i hc
    have hc' := hc
    simp only [Bool.and_eq_true, inRI] at hc
    obtain ⟨m, rfl⟩ := Int.eq_ofNat_of_zero_le (show 0 ≤ r by omega)
    exact ⟨hc.1, m, rfl, by omega, by omega, by rw [if_pos hc']⟩
  · omega
theorem reaV_bd (zs : List Int) (r : Int) : -1 ≤ reaV zs r ∧ reaV zs r ≤ 72 := by
  rcases Int.lt_or_le (reaV zs r) 0 with h | h
  · unfold reaV at h ⊢
    split at h
    · omega
    · rename_i hc; rw [if_neg hc]; omega
  · obtain ⟨hv, m, _, _, h6, he⟩ := reaV_parts h
    have := reachV_72 hv h6
    omega
theorem reaV_more {zs : List Int} {m : Nat} (hv : stampsB zs = true) (h6 : m ≤ 6) (h0 : 0 ≤ reaV zs ((m : Int) + 1)) : (reachV zs m : Int) ≤ reaV zs ((m : Int) + 1) := by
  obtain ⟨_, k, hk, _, hk6, he⟩ := reaV_parts h0
  have hA := reach_found (fun s hs => stamp_mem hv hs) h6
  have hB := reach_found (fun s hs => stamp_mem hv hs) hk6
  have := IsReach.mono hA hB (by omega)
  omega

set_option maxRecDepth 100000 in
set_option maxHeartbeats 4000000 in
theorem fnReachOf_law (A : Option Addr) (c : Nat) (zs : List Int) (w : World) (hr : Own w 0 w.heap.size A (zs.map (Value.int .u8))) (hx : zs.length ≤ c ∧ c ≤ maxLen ∧ ∀ z ∈ zs, (Lit.int .u8 z).wf = true) :
    Calls Try.prog 6 #[.slice A zs.length c] w fun e w' => e = .returned (.bool true) ∧ Below w.heap.size w w' := by
  have hl : zs.length ≤ 9223372036854775807 := by have := hx.1; have := hx.2.1; unfold maxLen at this; omega
  have HX := Lib.hid hx
  clear hx
  by_cases h20 : zs.length ≤ 1048576
  · go_enter Try.func6, Try.ntmps6
    go_wp2_with fail
    refine (drawReachOf_any _ _ _ _ hr HX.out).mono ?_
    rintro e w1 ⟨B, d, rs, most, rfl, hrb, h6, hdc, hsm, ho, hb1⟩
    obtain ⟨hrb1, hrb2⟩ := hrb
    obtain ⟨q, hq⟩ : ∃ q, reaV rs most = q := ⟨_, rfl⟩
    have hqb := reaV_bd rs most
    rw [hq] at hqb
    have HQ := Lib.hid hq
    clear hsm hq
    go_wp2_with fail
    refine (impRO_ret _ _ _ _ _ ho _ HQ.out).mono ?_
    rintro e w2 ⟨rfl, hb2⟩
    have ho2 := ho.past hb2
    go_wp2_with fail
    refine (specRO_ret _ _ _ _ _ ho2 (by omega) _ HQ.out).mono ?_
    rintro e w3 ⟨rfl, hb3⟩
    have ho3 := ho2.past hb3
    have hb13 := (hb1.trans (hb2.mono hb1.size))
    have hb13 := hb13.trans (hb3.mono hb13.size)
    have hqq : (q != q) = false := by simp
    clear hb1 hb2 hb3 ho ho2
    by_cases hq0 : q < 0
    · go_wp2_with fail
      refine (specRO_ret _ _ _ _ _ ho3 (by omega) _ HQ.out).mono ?_
      rintro e w4 ⟨rfl, hb4⟩
      have hqe : (q == q) = true := by simp
      go_wp2_with fail
      go_ret
      exact ⟨rfl, hb13.trans (hb4.mono hb13.size)⟩
    · obtain ⟨hv, m, rfl, hm1, hm6, hqm⟩ := reaV_parts (zs := rs) (r := most) (by rw [HQ.out]; omega)
      rw [HQ.out] at hqm
      obtain ⟨t, ht⟩ : ∃ t, reachV rs m = t := ⟨_, rfl⟩
      have hR := reach_found (fun s hs => stamp_mem hv hs) hm6
      rw [ht] at hR hqm
      subst hqm
      have HR := Lib.hid hR
      have HV := Lib.hid hv
      have HT := Lib.hid ht
      have HB := Lib.hid hb13
      clear hv hR ht hb13
      go_wp2
      go_loopw [6] (fun i wr => ∃ k : Nat, 1 ≤ k ∧ k ≤ t + 2 ∧ i = .int .i64 k ∧ Below w3.heap.size w3 wr) (fun i _ => t + 2 - (intOf i).toNat)
      case atStart => exact ⟨1, by omega, by omega, rfl, Below.refl _ _⟩
      case round =>
        obtain ⟨k, hk1, hk, rfl, hbr⟩ := hrel
        have hor := ho3.past hbr
        have HBR := Lib.hid hbr
        have hw1 : IntKind.i64.wrap ((t : Int) + 1) = (t : Int) + 1 := IntWalk.i64_in _ (by omega)
        by_cases hlt : k ≤ t + 1
        · have hle : (k : Int) ≤ (t : Int) + 1 := by omega
          have hk140 : (k : Int) ≤ 140 := by omega
          obtain ⟨f, hf⟩ : ∃ f, fw rs k = f := ⟨_, rfl⟩
          have HF := Lib.hid (show fewV rs (k : Int) = f by rw [fewV_yes HV.out (inRI.2 (by omega)), hf])
          by_cases hkt : k ≤ t
          · have hg := HR.out.1 k hk1 hkt
            simp only [goodR, decide_eq_true_eq, hf] at hg
            obtain ⟨hf0, hfm⟩ := hg
            have hkt' : (k : Int) ≤ (t : Int) := by omega
            have hkd : decide ((k : Int) ≤ (t : Int)) = true := decide_eq_true hkt'
            have hfd : decide (f ≤ (m : Int)) = true := decide_eq_true hfm
            have hfd0 : decide (0 ≤ f) = true := decide_eq_true hf0
            clear hf hbr
            go_wp2_with fail
            refine (impFS_ret _ _ _ _ _ hor _ HF.out).mono ?_
            rintro e w5 ⟨rfl, hb5⟩
            have HB5 := Lib.hid (HBR.out.trans (hb5.mono HBR.out.size))
            clear hb5 hor
            go_wp2
            go_roundw
            case rel => exact ⟨k + 1, by omega, by omega, by go_num, HB5.out⟩
            case measure => simp [intOf]; omega
          · have hkk : k = t + 1 := by omega
            have hg := HR.out.2
            rw [← hkk] at hg
            simp only [goodR, decide_eq_false_iff_not, hf] at hg
            have hkt' : ¬ (k : Int) ≤ (t : Int) := by omega
            have hkd : decide ((k : Int) ≤ (t : Int)) = false := decide_eq_false hkt'
            clear hf hbr hkk
            by_cases hf0 : 0 ≤ f
            · have hfm : ¬ f ≤ (m : Int) := fun h => hg ⟨hf0, h⟩
              have hfd : decide (f ≤ (m : Int)) = false := decide_eq_false hfm
              clear hg
              go_wp2_with fail
              refine (impFS_ret _ _ _ _ _ hor _ HF.out).mono ?_
              rintro e w5 ⟨rfl, hb5⟩
              have HB5 := Lib.hid (HBR.out.trans (hb5.mono HBR.out.size))
              clear hb5 hor
              go_wp2
              go_roundw
              case rel => exact ⟨k + 1, by omega, by omega, by go_num, HB5.out⟩
              case measure => simp [intOf]; omega
            · have hfd0 : decide (0 ≤ f) = false := decide_eq_false hf0
              clear hg
              go_wp2_with fail
              refine (impFS_ret _ _ _ _ _ hor _ HF.out).mono ?_
              rintro e w5 ⟨rfl, hb5⟩
              have HB5 := Lib.hid (HBR.out.trans (hb5.mono HBR.out.size))
              clear hb5 hor
              go_wp2
              go_roundw
              case rel => exact ⟨k + 1, by omega, by omega, by go_num, HB5.out⟩
              case measure => simp [intOf]; omega
        · have hle : ¬ (k : Int) ≤ (t : Int) + 1 := by omega
          have hwm : IntKind.i64.wrap ((m : Int) + 1) = (m : Int) + 1 := IntWalk.i64_in _ (by omega)
          have hmo := reaV_more HV.out hm6
          obtain ⟨u, hu⟩ : ∃ u, reaV rs ((m : Int) + 1) = u := ⟨_, rfl⟩
          rw [hu, HT.out] at hmo
          have HU := Lib.hid hu
          have HFIN := Lib.hid (HB.out.trans (HBR.out.mono HB.out.size))
          clear hu hbr
          go_wp2_with fail
          refine (impRO_ret _ _ _ _ _ hor _ HU.out).mono ?_
          rintro e w5 ⟨rfl, hb5⟩
          have HB5 := Lib.hid (HFIN.out.trans (hb5.mono HFIN.out.size))
          clear hb5 hor hwm
          by_cases hu0 : u < 0
          · clear hmo
            go_wp2
            go_ret
            exact ⟨rfl, HB5.out⟩
          · have hut : (t : Int) ≤ u := hmo (by omega)
            clear hmo
            go_wp2
            go_ret
            exact ⟨rfl, HB5.out⟩
  · go_enter Try.func6, Try.ntmps6
    go_wp2
    go_ret
    exact ⟨rfl, Below.refl _ _⟩
end Go.Proofs.Ytookdmdlpglbcab
