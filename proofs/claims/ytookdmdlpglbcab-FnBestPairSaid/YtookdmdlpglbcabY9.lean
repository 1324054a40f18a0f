/- The greatest first, the other side. No condition. -/
import Derived.Test.YtookdmdlpglbcabY6
namespace Go.Proofs.Ytookdmdlpglbcab
open Go.RowKit

def gSt (v : List Int) (k : Nat) (rate : Int) : Int × Int := (v.drop k).reverse.foldl gStep (0, rate)
theorem gSt_zero (v : List Int) (rate : Int) : gSt v 0 rate = gFold v rate := by simp [gSt, gFold]
theorem gSt_len (v : List Int) (rate : Int) : gSt v v.length rate = (0, rate) := by simp [gSt]
theorem gSt_step {v : List Int} {k : Nat} (h : k < v.length) (rate : Int) : gSt v k rate = gStep (gSt v (k + 1) rate) v[k] := by
  simp only [gSt]
  rw [List.drop_eq_getElem_cons h, List.reverse_cons, List.foldl_append]; rfl
theorem gfold_bd (l : List Int) (hp : ∀ s ∈ l, 1 ≤ s) : ∀ (a r : Int), 0 ≤ a → 0 ≤ r → 0 ≤ (l.foldl gStep (a, r)).1 ∧ 0 ≤ (l.foldl gStep (a, r)).2 ∧ (l.foldl gStep (a, r)).1 + (l.foldl gStep (a, r)).2 ≤ a + r := by
  induction l with
  | nil => intro a r ha hr; exact ⟨ha, hr, Int.le_refl _⟩
  | cons s l ih =>
    intro a r ha hr
    have hs := hp s (by simp)
    have h1 : 0 ≤ r % s := Int.emod_nonneg _ (by omega)
    have h2 : 0 ≤ r / s := Int.ediv_nonneg hr (by omega)
    have h3 : s * (r / s) + r % s = r := Int.mul_ediv_add_emod r s
    have h4 : 1 * (r / s) ≤ s * (r / s) := Int.mul_le_mul_of_nonneg_right hs h2
    have := ih (fun t ht => hp t (by simp [ht])) (a + r / s) (r % s) (by omega) h1
    have e : gStep (a, r) s = (a + r / s, r % s) := rfl
    rw [List.foldl_cons, e]
    omega
theorem quo_ok {r s : Int} (h : 0 ≤ r) : Int.tdiv r s = r / s := Int.tdiv_eq_ediv_of_nonneg h
theorem rem_ok {r s : Int} (h : 0 ≤ r) : Int.tmod r s = r % s := Int.tmod_eq_emod_of_nonneg h

set_option maxRecDepth 100000 in
set_option maxHeartbeats 1000000 in
theorem specGreedy_any (A : Option Addr) (c : Nat) (v : List Int) (rate : Int) (w : World) (hr : Ints w w.heap.size A v) (hp : ∀ s ∈ v, 1 ≤ s ∧ s ≤ 12) (hl : v.length ≤ 100) (h0 : 0 ≤ rate) (h1 : rate ≤ 140) :
    Calls Try.prog 43 #[.slice A v.length c, .int .i64 rate] w fun e w' => e = .returned (.int .i64 (gr v rate)) ∧ w = w' := by
  have hwl : IntKind.i64.wrap ((v.length : Int) - 1) = (v.length : Int) - 1 := IntWalk.i64_in _ (by omega)
  go_enter Try.func43, Try.ntmps43
  go_wp2
  clear hwl
  go_loop [6, 5, 1] (fun i n r => ∃ k : Nat, k ≤ v.length ∧ i = .int .i64 ((k : Int) - 1) ∧ n = .int .i64 (gSt v k rate).1 ∧ r = .int .i64 (gSt v k rate).2) (fun i _ _ => (intOf i + 1).toNat)
  case atStart => exact ⟨v.length, Nat.le_refl _, rfl, by rw [gSt_len], by rw [gSt_len]⟩
  case round =>
    obtain ⟨k, hk, rfl, rfl, rfl⟩ := hrel
    have hbd := gfold_bd (v.drop k).reverse (fun s hs => (hp s (List.mem_of_mem_drop (by simpa using hs))).1) 0 rate (Int.le_refl _) h0
    have hbd' : 0 ≤ (gSt v k rate).1 ∧ 0 ≤ (gSt v k rate).2 ∧ (gSt v k rate).1 + (gSt v k rate).2 ≤ 0 + rate := hbd
    clear hbd
    by_cases hk0 : k = 0
    · subst hk0
      have HG := Lib.hid (show gr v rate = if (gSt v 0 rate).2 > 0 then -1 else (gSt v 0 rate).1 by rw [gSt_zero]; rfl)
      obtain ⟨a, ha⟩ : ∃ a, (gSt v 0 rate).1 = a := ⟨_, rfl⟩
      obtain ⟨b, hb⟩ : ∃ b, (gSt v 0 rate).2 = b := ⟨_, rfl⟩
      rw [ha, hb] at HG hbd' ⊢
      clear ha hb
      by_cases hb0 : 0 < b
      · have HE := Lib.hid (show gr v rate = -1 by rw [HG.out, if_pos hb0])
        go_wp2
        go_ret
        exact ⟨ret_int HE.out.symm, rfl⟩
      · have HE := Lib.hid (show gr v rate = a by rw [HG.out, if_neg hb0])
        go_wp2
        go_ret
        exact ⟨ret_int HE.out.symm, rfl⟩
    · obtain ⟨j, rfl⟩ : ∃ j, k = j + 1 := ⟨k - 1, by omega⟩
      have hjl : j < v.length := by omega
      obtain ⟨b, o, rfl, hb, hc⟩ := hr.open (by simp; omega)
      have hcell := ints_at hc hjl
      have HS := Lib.hid (gSt_step hjl rate)
      have hs12 := hp _ (List.getElem_mem hjl)
      obtain ⟨s, hse⟩ : ∃ s, v[j] = s := ⟨_, rfl⟩
      obtain ⟨p, hpe⟩ : ∃ p, gSt v (j + 1) rate = p := ⟨_, rfl⟩
      rw [hse] at hcell hs12 HS
      rw [hpe] at HS hbd' ⊢
      obtain ⟨a, r⟩ := p
      have HS1 := Lib.hid (show (gSt v j rate).1 = a + r / s by rw [HS.out]; rfl)
      have HS2 := Lib.hid (show (gSt v j rate).2 = r % s by rw [HS.out]; rfl)
      simp only at hbd' ⊢
      obtain ⟨ha, hr0, har⟩ := hbd'
      obtain ⟨hs1, hs2⟩ := hs12
      have hi : ((j + 1 : Nat) : Int) - 1 = (j : Int) := by omega
      have hq0 : 0 ≤ r / s := Int.ediv_nonneg hr0 (by omega)
      have hq1 : r / s ≤ r := Int.ediv_le_self _ hr0
      have hm0 : 0 ≤ r % s := Int.emod_nonneg _ (by omega)
      have hm1 : r % s < s := Int.emod_lt_of_pos _ (by omega)
      have hsz : ¬ s = 0 := by omega
      have htd : Int.tdiv r s = r / s := quo_ok hr0
      have htm : Int.tmod r s = r % s := rem_ok hr0
      have hw1 : IntKind.i64.wrap (r / s) = r / s := IntWalk.i64_in _ (by omega)
      have hw2 : IntKind.i64.wrap (r % s) = r % s := IntWalk.i64_in _ (by omega)
      have hw3 : IntKind.i64.wrap (a + r / s) = a + r / s := IntWalk.i64_in _ (by omega)
      have hw4 : IntKind.i64.wrap ((j : Int) - 1) = (j : Int) - 1 := IntWalk.i64_in _ (by omega)
      rw [hi]
      clear hc hr hi hse hpe HS
      go_wp2
      go_round
      case rel => exact ⟨j, by omega, by go_num, by rw [HS1.out], by rw [HS2.out]⟩
      case measure => simp [intOf]

def greV (v : List Int) (rate : Int) : Int := if stampsB v && inR rate 0 140 then gr v rate else -1
theorem greV_yes {v : List Int} {r : Int} (h : stampsB v = true) (h2 : inR r 0 140 = true) : greV v r = gr v r := by simp [greV, h, h2]
theorem greV_no {v : List Int} {r : Int} (h : stampsB v = false ∨ inR r 0 140 = false) : greV v r = -1 := by rcases h with h | h <;> simp [greV, h]

set_option maxRecDepth 100000 in
set_option maxHeartbeats 1000000 in
theorem specGreedyStamps_any (A : Option Addr) (c : Nat) (zs : List Int) (rate : Int) (w : World) (hr : Ints w w.heap.size A zs) (hl : zs.length ≤ 9000000000000000000) :
    Calls Try.prog 16 #[.slice A zs.length c, .int .i64 rate] w fun e w' => e = .returned (.int .i64 (greV zs rate)) ∧ Below w.heap.size w w' := by
  have HVA := Lib.hid (specVS_E A c zs w hr hl)
  by_cases hv : stampsB zs = true
  · rw [hv] at HVA
    have HV := Lib.hid hv
    by_cases hk : inR rate 0 140 = true
    · have hkb := inRI.1 hk
      have HE := Lib.hid (greV_yes hv hk)
      have HIR := Lib.hid (fun W => inRangeE rate 0 140 true hk W)
      clear hv hk
      go_enter Try.func16, Try.ntmps16
      go_wp2_with (first | (go_at_call 39; refine HVA.out.mono ?_; rintro e w1 ⟨rfl, hb1⟩) | (go_at_call 40; refine (HIR.out _).mono ?_; rintro e w' ⟨rfl, rfl⟩))
      have HF := Lib.hid (specGreedy_any A c zs rate w1 (hr.past hb1) (fun s hs => stamp_mem HV.out hs) (by have := stampsB_len HV.out; omega) hkb.1 hkb.2)
      go_wp2_with fail
      refine HF.out.mono ?_
      rintro e w2 ⟨rfl, rfl⟩
      go_wp2
      go_ret
      exact ⟨ret_int HE.out.symm, hb1⟩
    · have hk' : inR rate 0 140 = false := by simpa using hk
      have HE := Lib.hid (greV_no (v := zs) (r := rate) (.inr hk'))
      have HIR := Lib.hid (fun W => inRangeE rate 0 140 false hk' W)
      clear hv hk hk'
      go_enter Try.func16, Try.ntmps16
      go_wp2_with (first | (go_at_call 39; refine HVA.out.mono ?_; rintro e w1 ⟨rfl, hb1⟩) | (go_at_call 40; refine (HIR.out _).mono ?_; rintro e w' ⟨rfl, rfl⟩))
      go_ret
      exact ⟨ret_int HE.out.symm, hb1⟩
  · have hv' : stampsB zs = false := by simpa using hv
    rw [hv'] at HVA
    have HE := Lib.hid (greV_no (v := zs) (r := rate) (.inl hv'))
    clear hv hv'
    go_enter Try.func16, Try.ntmps16
    go_wp2_with (go_at_call 39; refine HVA.out.mono ?_; rintro e w1 ⟨rfl, hb1⟩)
    go_ret
    exact ⟨ret_int HE.out.symm, hb1⟩
end Go.Proofs.Ytookdmdlpglbcab
