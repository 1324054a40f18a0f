/- Idle routes, both sides. No condition. -/
import Derived.Test.YtlmcclbikljbhaaQ8
import Derived.BigQuiet
import Derived.Deep.QuietTactic
namespace Go.Proofs.Ytlmcclbikljbhaa
open Go.RowKit

def outr (rs : List (ByteArray × Int)) (k : Nat) : Int := lg rs (hd rs k) k rs.length
def idleB (rs : List (ByteArray × Int)) (k : Nat) : Bool := ov rs (outr rs k) == of_ rs k
def idleI (rs : List (ByteArray × Int)) (k : Nat) : Bool := decide (0 ≤ outr rs k) && (ov rs (outr rs k) == of_ rs k)
def firstI (rs : List (ByteArray × Int)) (r : Int) : Prop :=
  (r = -1 ∧ ∀ i, i < rs.length → idleI rs i = false) ∨ ∃ n : Nat, n < rs.length ∧ r = n ∧ idleI rs n = true ∧ ∀ i, i < n → idleI rs i = false

set_option maxRecDepth 100000 in
set_option maxHeartbeats 2000000 in
theorem idle_any (A : Option Addr) (c k : Nat) (rs : List (ByteArray × Int)) (w : World) (hr : Own w 0 w.heap.size A (flat rs)) (hl : rs.length ≤ 1048576) (hs : ∀ r ∈ rs, r.1.size ≤ 1048576) (hk : k < rs.length) :
    Calls Try.prog 77 #[.slice A rs.length c, .int .i64 k] w fun e w' => e = .returned (.bool (idleB rs k)) ∧ ∃ n, w' = w.drewN n := by
  have HS := Lib.hid hs
  clear hs
  obtain ⟨b, o, rfl, hb, hc0⟩ := hr.open (by rw [flat_length]; omega)
  obtain ⟨hk1, hk2⟩ := routes_at hc0 hk
  obtain ⟨s, hse⟩ : ∃ s, rs[k].1 = s := ⟨_, rfl⟩
  obtain ⟨g, hge⟩ : ∃ f, rs[k].2 = f := ⟨_, rfl⟩
  rw [hse] at hk1
  rw [hge] at hk2
  have HSE := Lib.hid (show hd rs k = s by rw [hd_get hk, hse])
  have HGE := Lib.hid (show of_ rs k = g by rw [of_get hk, hge])
  have hkI : (k : Int) < rs.length := by omega
  have hk0 : (0 : Int) ≤ k := by omega
  have HC := Lib.hid hc0
  clear hc0 hse hge
  go_enter Try.func77, Try.ntmps77
  go_wp2
  go_loopw [5, 6, 7] (fun bv ot i wr => ∃ n : Nat, n ≤ rs.length ∧ i = .int .i64 n ∧ bv = .int .i64 (bz rs (lg rs s k n)) ∧ ot = .int .i64 (ov rs (lg rs s k n)) ∧ ∃ q, wr = w.drewN q) (fun _ _ i _ => rs.length - (intOf i).toNat)
  case atStart => exact ⟨0, by omega, rfl, rfl, rfl, 0, rfl⟩
  case round =>
    obtain ⟨n, hn, rfl, rfl, rfl, hwr⟩ := hrel
    have HWR := Lib.hid hwr
    have hbw : Below w.heap.size w wr := by obtain ⟨q, rfl⟩ := hwr; exact below_drewN (Below.refl _ _) q
    obtain ⟨W, hW⟩ : ∃ W : World, W = wr := ⟨_, rfl⟩
    subst hW
    have gk1 := cell_stay hbw hb hk1
    have gk2 := cell_stay hbw hb hk2
    clear hwr
    obtain ⟨B, hBe⟩ : ∃ B, bz rs (lg rs s k n) = B := ⟨_, rfl⟩
    obtain ⟨O, hOe⟩ : ∃ O, ov rs (lg rs s k n) = O := ⟨_, rfl⟩
    rw [hBe, hOe]
    have HB := Lib.hid hBe
    have HO := Lib.hid hOe
    clear hBe hOe hk1 hk2
    by_cases hlt : n < rs.length
    · obtain ⟨hc1, hc2⟩ := routes_at HC.out hlt
      have hc1 := cell_stay hbw hb hc1
      have hc2 := cell_stay hbw hb hc2
      have hh := hd_get hlt
      have ho := of_get hlt
      obtain ⟨h, hse⟩ : ∃ s, rs[n].1 = s := ⟨_, rfl⟩
      obtain ⟨f, hfe⟩ : ∃ f, rs[n].2 = f := ⟨_, rfl⟩
      rw [hse] at hc1 hh
      rw [hfe] at hc2 ho
      have HH := Lib.hid hh
      have HOF := Lib.hid ho
      have hnI : (n : Int) < rs.length := by omega
      have hbW : b < W.heap.size := by have := hbw.size; omega
      have hbg := fun X => begins_any s h X
      clear hh ho hse hfe hbw
      by_cases hkn : n = k
      · subst hkn
        have HY := Lib.hid (show lg rs s n (n + 1) = lg rs s n n from lg_no (.inl rfl))
        clear hbg
        go_wp2
        go_roundw
        case rel => exact ⟨n + 1, by omega, by go_num, by rw [HY.out, HB.out], by rw [HY.out, HO.out], HWR.out⟩
        case measure => simp [intOf]; omega
      · have hkb : ((n : Int) != (k : Int)) = true := by simp; omega
        have HK := Lib.hid (show (n : Int) ≠ (k : Int) by omega)
        clear hkn
        by_cases hq : bg s h = true
        · rw [hq] at hbg
          have HBG := Lib.hid hbg
          have HQ := Lib.hid hq
          clear hbg hq
          by_cases hgt : B < (h.size : Int)
          · have HY := Lib.hid (show lg rs s k (n + 1) = n from lg_yes HK.out (by rw [HH.out]; exact HQ.out) (by rw [HB.out, HH.out]; exact hgt))
            go_wp2_with fail
            refine (HBG.out _).mono ?_
            rintro e w2 ⟨rfl, q2, hw2⟩
            have b2 : Below W.heap.size W w2 := by rw [hw2]; exact below_drewN (Below.refl _ _) q2
            have g1 := cell_stay b2 hbW hc1
            have g2 := cell_stay b2 hbW hc2
            have HW2 := Lib.hid (show ∃ q, w2 = w.drewN q by obtain ⟨q, h⟩ := HWR.out; rw [hw2, h]; exact ⟨_, World.drewN_drewN ..⟩)
            clear hw2 b2
            go_wp2
            go_roundw
            case rel => exact ⟨n + 1, by omega, by go_num, by rw [HY.out, bz_nat, HH.out], by rw [HY.out, ov_nat, HOF.out], HW2.out⟩
            case measure => simp [intOf]; omega
          · have HY := Lib.hid (show lg rs s k (n + 1) = lg rs s k n from lg_no (.inr (.inr (by rw [HB.out, HH.out]; exact hgt))))
            have hge : (h.size : Int) ≤ B := by omega
            go_wp2_with fail
            refine (HBG.out _).mono ?_
            rintro e w2 ⟨rfl, q2, hw2⟩
            have HW2 := Lib.hid (show ∃ q, w2 = w.drewN q by obtain ⟨q, h⟩ := HWR.out; rw [hw2, h]; exact ⟨_, World.drewN_drewN ..⟩)
            clear hw2
            go_wp2
            go_roundw
            case rel => exact ⟨n + 1, by omega, by go_num, by rw [HY.out, HB.out], by rw [HY.out, HO.out], HW2.out⟩
            case measure => simp [intOf]; omega
        · have hq' : bg s h = false := by simpa using hq
          rw [hq'] at hbg
          have HBG := Lib.hid hbg
          have HY := Lib.hid (show lg rs s k (n + 1) = lg rs s k n from lg_no (.inr (.inl (by rw [HH.out]; exact hq'))))
          clear hbg hq hq'
          go_wp2_with fail
          refine (HBG.out _).mono ?_
          rintro e w2 ⟨rfl, q2, hw2⟩
          have HW2 := Lib.hid (show ∃ q, w2 = w.drewN q by obtain ⟨q, h⟩ := HWR.out; rw [hw2, h]; exact ⟨_, World.drewN_drewN ..⟩)
          clear hw2
          go_wp2
          go_roundw
          case rel => exact ⟨n + 1, by omega, by go_num, by rw [HY.out, HB.out], by rw [HY.out, HO.out], HW2.out⟩
          case measure => simp [intOf]; omega
    · have hn' : n = rs.length := by omega
      subst hn'
      have HE := Lib.hid (show idleB rs k = (O == g) by rw [idleB, outr, HSE.out, HGE.out, HO.out])
      go_wp2
      go_ret
      exact ⟨ret_bool HE.out.symm, HWR.out⟩

set_option maxRecDepth 100000 in
set_option maxHeartbeats 2000000 in
theorem firstIdle_any (A : Option Addr) (c : Nat) (rs : List (ByteArray × Int)) (w : World) (hr : Own w 0 w.heap.size A (flat rs)) (hl : rs.length ≤ 1048576) (hs : ∀ r ∈ rs, r.1.size ≤ 1048576) :
    Calls Try.prog 75 #[.slice A rs.length c] w fun e w' => ∃ r : Int, e = .returned (.int .i64 r) ∧ firstI rs r ∧ Below w.heap.size w w' := by
  have HS := Lib.hid hs
  clear hs
  go_enter Try.func75, Try.ntmps75
  go_wp2
  go_loopw [8] (fun i wr => ∃ n : Nat, n ≤ rs.length ∧ i = .int .i64 n ∧ (∀ i, i < n → idleI rs i = false) ∧ Below w.heap.size w wr) (fun i _ => rs.length - (intOf i).toNat)
  case atStart => exact ⟨0, by omega, rfl, fun i h => by omega, Below.refl _ _⟩
  case round =>
    obtain ⟨n, hn, rfl, hall, hbw⟩ := hrel
    have HA := Lib.hid hall
    have HBW := Lib.hid hbw
    have hrr := hr.past hbw
    have hWz := hbw.size
    obtain ⟨W, hW⟩ : ∃ W : World, W = wr := ⟨_, rfl⟩
    subst hW
    have HR := Lib.hid hrr
    clear hbw hall
    by_cases hlt : n < rs.length
    · obtain ⟨b, o, rfl, hb, hc⟩ := hrr.open (by rw [flat_length]; omega)
      have HC := Lib.hid hc
      obtain ⟨hc1, hc2⟩ := routes_at hc hlt
      have hh := hd_get hlt
      have ho := of_get hlt
      obtain ⟨h, hse⟩ : ∃ s, rs[n].1 = s := ⟨_, rfl⟩
      obtain ⟨f, hfe⟩ : ∃ f, rs[n].2 = f := ⟨_, rfl⟩
      rw [hse] at hc1 hh
      rw [hfe] at hc2 ho
      have HOF := Lib.hid ho
      have hnI : (n : Int) < rs.length := by omega
      obtain ⟨hB0, hB1⟩ := lg_le rs h n rs.length
      obtain ⟨B, hBe⟩ : ∃ B, lg rs h n rs.length = B := ⟨_, rfl⟩
      rw [hBe] at hB0 hB1
      have HB := Lib.hid hBe
      have HOU := Lib.hid (show outr rs n = B by rw [outr, hh, hBe])
      have hlg := fun X hX => longestHead_any (some ⟨b, o, none⟩) c rs h n X hX hl HS.out
      rw [hBe] at hlg
      have HLG := Lib.hid hlg
      have hba : Below W.heap.size W (W.alloc (.cells #[.string h, .int .i64 f] 38)) := (Below.refl _ _).alloc (Nat.le_refl _) _
      clear hc hh ho hse hfe hrr hlg hBe
      go_wp2_with fail
      refine (HLG.out _ (HR.out.past hba)).mono ?_
      rintro e w2 ⟨rfl, b2⟩
      have k2 : w2.cell? ⟨W.heap.size, 1, none⟩ = some (.int .i64 f) := cell_stay b2 (by simp) (by rw [World.cell?_alloc_at _ _ _ _ rfl]; rfl)
      have B12 := Lib.hid (show Below W.heap.size W w2 from hba.trans (b2.mono (by simp)))
      have HW2 := Lib.hid (HBW.out.trans (B12.out.mono hWz))
      have hbW : b < W.heap.size := by omega
      clear b2 hba
      by_cases hneg : 0 ≤ B
      · have hBn : B.toNat < rs.length := by omega
        obtain ⟨_, hcj⟩ := routes_at HC.out hBn
        have g2 := cell_stay B12.out hbW hcj
        have hoj := of_get hBn
        obtain ⟨u, hue⟩ : ∃ u, rs[B.toNat].2 = u := ⟨_, rfl⟩
        rw [hue] at g2 hoj
        have hn0 : ¬ B < 0 := by omega
        have HE := Lib.hid (show idleI rs n = (u == f) by rw [idleI, HOU.out, HOF.out]; simp [ov, hn0, hneg, hoj])
        have hd1 : decide (0 ≤ B) = true := decide_eq_true hneg
        have hBl : B < rs.length := by omega
        clear hcj hoj hue hn0
        by_cases huf : (u == f) = true
        · have HT := Lib.hid huf
          go_wp2
          go_quiet (fail)
          go_wp2
          go_ret
          exact ⟨n, rfl, .inr ⟨n, hlt, rfl, by rw [HE.out, HT.out], HA.out⟩, below_drewN HW2.out _⟩
        · have huf' : (u == f) = false := by simpa using huf
          have HT := Lib.hid huf'
          clear huf
          go_wp2
          go_quiet (fail)
          go_wp2
          go_roundw
          case rel =>
            refine ⟨n + 1, by omega, by go_num, fun i hi => ?_, below_drewN HW2.out _⟩
            rcases Nat.lt_or_ge i n with h | h
            · exact HA.out i h
            · obtain rfl : i = n := by omega
              rw [HE.out, HT.out]
          case measure => simp [intOf]; omega
      · have hd1 : decide (0 ≤ B) = false := decide_eq_false hneg
        have HE := Lib.hid (show idleI rs n = false by rw [idleI, HOU.out]; simp [hneg])
        go_wp2
        go_quiet (fail)
        go_wp2
        go_roundw
        case rel =>
          refine ⟨n + 1, by omega, by go_num, fun i hi => ?_, below_drewN HW2.out _⟩
          rcases Nat.lt_or_ge i n with h | h
          · exact HA.out i h
          · obtain rfl : i = n := by omega
            exact HE.out
        case measure => simp [intOf]; omega
    · have hn' : n = rs.length := by omega
      subst hn'
      go_wp2
      go_ret
      exact ⟨-1, rfl, .inl ⟨rfl, HA.out⟩, HBW.out⟩
end Go.Proofs.Ytlmcclbikljbhaa
