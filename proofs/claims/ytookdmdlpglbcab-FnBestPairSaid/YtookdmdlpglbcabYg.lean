/- ReachOf, the other side. No condition. -/
import Derived.Test.YtookdmdlpglbcabY6
namespace Go.Proofs.Ytookdmdlpglbcab
open Go.RowKit

theorem reach_found {v : List Int} (hp : ∀ s ∈ v, 1 ≤ s ∧ s ≤ 12) {most : Nat} (h6 : most ≤ 6) : IsReach v most (reachV v most) :=
  reach_is ⟨199, by omega, good_past (fun s hs => (hp s hs).1) (fun s hs => (hp s hs).2) (by omega) (by omega)⟩

set_option maxRecDepth 100000 in
set_option maxHeartbeats 2000000 in
theorem specReach_any (A : Option Addr) (c : Nat) (v : List Int) (most : Nat) (w : World) (hr : Ints w w.heap.size A v) (hp : ∀ s ∈ v, 1 ≤ s ∧ s ≤ 12) (hl : v.length ≤ 100) (hl1 : 1 ≤ v.length) (hup : ∀ s ∈ v, s ≤ v.getD (v.length - 1) 0) (h6 : most ≤ 6) :
    Calls Try.prog 47 #[.slice A v.length c, .int .i64 (most : Int)] w fun e w' => e = .returned (.int .i64 (reachV v most : Int)) ∧ Below w.heap.size w w' := by
  have HR := Lib.hid (reach_found hp h6)
  obtain ⟨b, o, rfl, hb, hc⟩ := hr.open (by simp; omega)
  obtain ⟨m, hm⟩ : ∃ m, v.length - 1 = m := ⟨_, rfl⟩
  have hcell := ints_at hc (show m < v.length by omega)
  have hmx : v[m]'(by omega) = v.getD (v.length - 1) 0 := by rw [← getD_get, hm]
  have hm12 := hp _ (List.getElem_mem (show m < v.length by omega))
  rw [hmx] at hcell hm12
  have hml : ((v.length : Nat) : Int) - 1 = (m : Int) := by omega
  have hwl : IntKind.i64.wrap ((v.length : Int) - 1) = (m : Int) := by rw [hml]; exact IntWalk.i64_in _ (by omega)
  obtain ⟨s, hse⟩ : ∃ s, v.getD (v.length - 1) 0 = s := ⟨_, rfl⟩
  rw [hse] at hcell hm12 hup
  obtain ⟨hs1, hs2⟩ := hm12
  obtain ⟨n, hn⟩ : ∃ n : Nat, s * (most : Int) + 1 = (n : Int) := by
    refine ⟨(s * (most : Int) + 1).toNat, ?_⟩
    have : 0 ≤ s * (most : Int) := Int.mul_nonneg (by omega) (by omega)
    omega
  have hb1 : s * (most : Int) ≤ 72 := by
    have h1 : s * (most : Int) ≤ 12 * (most : Int) := Int.mul_le_mul_of_nonneg_right hs2 (by omega)
    omega
  have hb0 : 0 ≤ s * (most : Int) := Int.mul_nonneg (by omega) (by omega)
  have hw1 : IntKind.i64.wrap (s * (most : Int)) = s * (most : Int) := IntWalk.i64_in _ (by omega)
  have hw2 : IntKind.i64.wrap (s * (most : Int) + 1) = (n : Int) := by rw [hn]; exact IntWalk.i64_in _ (by omega)
  have hmm : (m : Int) < (v.length : Int) := by omega
  have hrn : reachV v most + 1 ≤ n := by
    rcases Nat.lt_or_ge n (reachV v most + 1) with h | h
    · have h1 := HR.out.1 n (by omega) (by omega)
      have h2 := good_past (most := most) (fun s hs => (hp s hs).1) hup (by omega) (r := n) (by rw [Int.mul_comm]; omega)
      rw [h1] at h2; cases h2
    · exact h
  have hn1000 : n ≤ 1000 := by omega
  have HF := Lib.hid (specFewest_any (some ⟨b, o, none⟩) c v n w hr hp hl hn1000)
  have HP := Lib.hid hp
  clear hr hc hmx hse hml hup hp hb1 hb0
  obtain ⟨R, hRe⟩ : ∃ R, reachV v most = R := ⟨_, rfl⟩
  rw [hRe] at HR hrn ⊢
  clear hRe
  go_enter Try.func47, Try.ntmps47
  go_wp2_with (go_at_call 41; refine HF.out.mono ?_; rintro e w2 ⟨A', c', rfl, hcp, ho, hb2⟩)
  obtain ⟨b', o', rfl, hbb, hc⟩ := ho.open (by rw [List.length_map, fwT_len]; omega)
  have hcells : ∀ r : Nat, r ≤ n → w2.cell? ⟨b', o' + r, none⟩ = some (.int .i64 (fw v r)) := by
    intro r hr
    have h1 := ints_at hc (show r < (fwT v n).length by rw [fwT_len]; omega)
    rw [h1, ← getD_get, fwT_get v n hr]
  have HC := Lib.hid hcells
  have HB := Lib.hid hb2
  clear hcells hc ho hcp hb2 HF hcell hwl hw1 hw2 hmm hn
  go_loop [6] (fun i => ∃ k : Nat, k ≤ R ∧ i = .int .i64 (k : Int)) (fun i => R - (intOf i).toNat)
  case atStart => exact ⟨0, by omega, rfl⟩
  case round =>
    obtain ⟨k, hk, rfl⟩ := hrel
    obtain ⟨j, hj⟩ : ∃ j, k + 1 = j := ⟨_, rfl⟩
    have hkj : (k : Int) + 1 = (j : Int) := by omega
    have hwj : IntKind.i64.wrap ((k : Int) + 1) = (j : Int) := by rw [hkj]; exact IntWalk.i64_in _ (by omega)
    have hjn : (j : Int) < ((n + 1 : Nat) : Int) := by omega
    have hcj := HC.out j (by omega)
    have hbw := fw_bd v (fun s hs => (HP.out s hs).1) j
    have HGD := Lib.hid (show goodR v most j = decide (0 ≤ fw v j ∧ fw v j ≤ (most : Int)) from rfl)
    obtain ⟨f, hf⟩ : ∃ f, fw v j = f := ⟨_, rfl⟩
    rw [hf] at hcj hbw HGD
    have HJ := Lib.hid hj
    clear hf hj hbw
    by_cases hkR : k < R
    · have hg := HR.out.1 j (by have := HJ.out; omega) (by have := HJ.out; omega)
      rw [HGD.out, decide_eq_true_eq] at hg
      obtain ⟨hg1, hg2⟩ := hg
      go_wp2
      go_round
      case rel => exact ⟨k + 1, by omega, by have := HJ.out; go_num⟩
      case measure => simp [intOf]; omega
    · have hkk : k = R := by omega
      subst hkk
      have hg := HR.out.2
      rw [HJ.out, HGD.out, decide_eq_false_iff_not] at hg
      by_cases hf0 : 0 ≤ f
      · have hfm : ¬ f ≤ (most : Int) := fun h => hg ⟨hf0, h⟩
        clear hg
        go_wp2
        go_ret
        exact ⟨rfl, HB.out⟩
      · clear hg
        go_wp2
        go_ret
        exact ⟨rfl, HB.out⟩

def reaV (v : List Int) (most : Int) : Int := if stampsB v && inR most 1 6 then (reachV v most : Int) else -1
theorem reaV_yes {v : List Int} {m : Nat} (h : stampsB v = true) (h2 : inR (m : Int) 1 6 = true) : reaV v (m : Int) = (reachV v m : Int) := by simp [reaV, h, h2]
theorem reaV_no {v : List Int} {r : Int} (h : stampsB v = false ∨ inR r 1 6 = false) : reaV v r = -1 := by rcases h with h | h <;> simp [reaV, h]
theorem stamps_up {v : List Int} (h : stampsB v = true) : ∀ s ∈ v, s ≤ v.getD (v.length - 1) 0 := by
  intro s hs
  have hl := stampsB_len h
  obtain ⟨i, hi, rfl⟩ := List.getElem_of_mem hs
  have em : v.getD (v.length - 1) 0 = v[v.length - 1]'(by omega) := getD_get (by omega)
  rw [em]
  by_cases hi2 : i = v.length - 1
  · subst hi2; exact Int.le_refl _
  · have := stamp_lt h (v.length - 1 - i - 1) i (by omega)
    have e : i + (v.length - 1 - i - 1 + 1) = v.length - 1 := by omega
    have h3 : v[i]'(by omega) < v[v.length - 1]'(by omega) := by simpa only [e] using this
    omega

set_option maxRecDepth 100000 in
set_option maxHeartbeats 1000000 in
theorem specReachOf_any (A : Option Addr) (c : Nat) (zs : List Int) (most : Int) (w : World) (hr : Ints w w.heap.size A zs) (hl : zs.length ≤ 9000000000000000000) :
    Calls Try.prog 22 #[.slice A zs.length c, .int .i64 most] w fun e w' => e = .returned (.int .i64 (reaV zs most)) ∧ Below w.heap.size w w' := by
  have HVA := Lib.hid (specVS_E A c zs w hr hl)
  by_cases hv : stampsB zs = true
  · rw [hv] at HVA
    have HV := Lib.hid hv
    by_cases hk : inR most 1 6 = true
    · have hkb := inRI.1 hk
      obtain ⟨m, rfl⟩ := Int.eq_ofNat_of_zero_le (show 0 ≤ most by omega)
      have HE := Lib.hid (reaV_yes hv hk)
      have HIR := Lib.hid (fun W => inRangeE (m : Int) 1 6 true hk W)
      have hlen := stampsB_len hv
      clear hv hk
      go_enter Try.func22, Try.ntmps22
      go_wp2_with (first | (go_at_call 39; refine HVA.out.mono ?_; rintro e w1 ⟨rfl, hb1⟩) | (go_at_call 40; refine (HIR.out _).mono ?_; rintro e w' ⟨rfl, rfl⟩))
      have HF := Lib.hid (specReach_any A c zs m w1 (hr.past hb1) (fun s hs => stamp_mem HV.out hs) (by omega) (by omega) (stamps_up HV.out) (by omega))
      go_wp2_with fail
      refine HF.out.mono ?_
      rintro e w2 ⟨rfl, hb2⟩
      go_wp2
      go_ret
      exact ⟨ret_int HE.out.symm, hb1.trans (hb2.mono hb1.size)⟩
    · have hk' : inR most 1 6 = false := by simpa using hk
      have HE := Lib.hid (reaV_no (v := zs) (r := most) (.inr hk'))
      have HIR := Lib.hid (fun W => inRangeE most 1 6 false hk' W)
      clear hv hk hk'
      go_enter Try.func22, Try.ntmps22
      go_wp2_with (first | (go_at_call 39; refine HVA.out.mono ?_; rintro e w1 ⟨rfl, hb1⟩) | (go_at_call 40; refine (HIR.out _).mono ?_; rintro e w' ⟨rfl, rfl⟩))
      go_ret
      exact ⟨ret_int HE.out.symm, hb1⟩
  · have hv' : stampsB zs = false := by simpa using hv
    rw [hv'] at HVA
    have HE := Lib.hid (reaV_no (v := zs) (r := most) (.inl hv'))
    clear hv hv'
    go_enter Try.func22, Try.ntmps22
    go_wp2_with (go_at_call 39; refine HVA.out.mono ?_; rintro e w1 ⟨rfl, hb1⟩)
    go_ret
    exact ⟨ret_int HE.out.symm, hb1⟩
end Go.Proofs.Ytookdmdlpglbcab
