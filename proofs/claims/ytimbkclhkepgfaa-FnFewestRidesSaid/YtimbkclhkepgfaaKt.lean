/- Fewest rides: plain, and spec. No condition. -/
import Derived.Test.YtimbkclhkepgfaaKm
namespace Go.Proofs.Ytimbkclhkepgfaa
open Go.RowKit

/-- The first number from i on, of at most F, of which p says yes. -/
def upTo (p : Nat → Bool) : Nat → Nat → Nat
  | 0, i => i
  | F + 1, i => if p i = true then i else upTo p F (i + 1)
theorem upTo_eq {p : Nat → Bool} {N : Nat} (h : p N = true) : ∀ {F i : Nat}, (∀ m, i ≤ m → m < N → p m = false) → i ≤ N → N ≤ i + F → upTo p F i = N := by
  intro F
  induction F with
  | zero => intro i _ h1 h2; simp only [upTo]; omega
  | succ F ih =>
    intro i hl h1 h2
    simp only [upTo]
    by_cases hi : i = N
    · rw [hi, if_pos h]
    · rw [if_neg (by rw [hl i (Nat.le_refl _) (by omega)]; simp)]
      exact ih (fun m a b => hl m (by omega) b) (by omega) (by omega)
/-- So many rides are enough. -/
def enough (rs : List (List Int)) (s τ : Int) (v : Nat) (n : Nat) : Bool := decide ((withT (rs.map cp) s τ n).getD v 0 = (earlV rs s τ).getD v 0)
def ridesV (rs : List (List Int)) (s τ to : Int) : Int := if (tripB rs s τ && (inR to 0 4 && decide (0 ≤ (earlV rs s τ).getD to.toNat 0))) = true then (upTo (enough rs s τ to.toNat) 10 0 : Int) else -1
theorem ridesV_no {rs : List (List Int)} {s τ to : Int} (h : (tripB rs s τ && (inR to 0 4 && decide (0 ≤ (earlV rs s τ).getD to.toNat 0))) = false) : ridesV rs s τ to = -1 := by unfold ridesV; rw [h]; rfl
theorem ridesV_yes {rs : List (List Int)} {s τ : Int} {v N : Nat} (ht : tripB rs s τ = true) (hv : v ≤ 4) (h0 : 0 ≤ (earlV rs s τ).getD v 0) (hN : enough rs s τ v N = true) (hl : ∀ m, m < N → enough rs s τ v m = false) (h10 : N ≤ 10) : ridesV rs s τ (v : Int) = N := by
  unfold ridesV
  rw [if_pos (by rw [ht, show inR (v : Int) 0 4 = true from inR_iff.2 ⟨by omega, by omega⟩, Int.toNat_natCast, decide_eq_true h0]; rfl), Int.toNat_natCast, upTo_eq hN (fun m _ h => hl m h) (Nat.zero_le _) (by omega)]
theorem with_len {rs : List (List Int)} {s τ : Int} (h : tripB rs s τ = true) {n : Nat} (hn : rs.length ≤ n) : withT (rs.map cp) s τ n = earlV rs s τ := by
  obtain ⟨hv, sn, tn, rfl, rfl, h4, h60⟩ := trip_parts h
  have h2 := earl_parts h
  refine rep_eq (withT_times (cp_ok hv) (by omega) n) h2.1 (withT_rep (cp_ok hv) (by omega) (by omega) n) (fun v x a b => (h2.2 v x a b).trans ⟨fun hg => ?_, G_go⟩)
  have h3 := go_len (sortC_ok (cp_ok hv)) (sortC_sorted _) (Go_mono (fun c hc => sortC_mem.2 hc) hg)
  exact G_mono (fun c hc => sortC_mem.1 hc) (by rw [sortC_length, List.length_map]; exact hn) h3
theorem enough_len {rs : List (List Int)} {s τ : Int} (h : tripB rs s τ = true) (v : Nat) {n : Nat} (hn : rs.length ≤ n) : enough rs s τ v n = true := by
  unfold enough; rw [with_len h hn]; simp

set_option maxRecDepth 100000 in
set_option maxHeartbeats 8000000 in
theorem specRides_any (A : Option Addr) (c : Nat) (rs : List (List Int)) (s τ to : Int) (w : World) (hr : Grid w 0 w.heap.size A rs) (hl : rs.length ≤ 1000000000) (hs : ∀ r ∈ rs, r.length ≤ 1000000000) :
    Calls Try.prog 7 #[.slice A rs.length c, .int .i64 s, .int .i64 τ, .int .i64 to] w fun e w' => e = .returned (.int .i64 (ridesV rs s τ to)) ∧ Below w.heap.size w w' := by
  have HTR := Lib.hid (validTrip_any A c rs s τ w hr hl hs)
  have HIN := Lib.hid (inRange_any to 0 4)
  have HGR := Lib.hid hr
  have HS := Lib.hid hs
  clear hs hr
  by_cases ht : tripB rs s τ = true
  · by_cases hto : inR to 0 4 = true
    · obtain ⟨hsb0, hsb1, htb0, htb1, hvv⟩ := trip_bd ht
      have hto' := inR_iff.1 hto
      obtain ⟨v, rfl⟩ := Int.eq_ofNat_of_zero_le hto'.1
      obtain ⟨sn, rfl⟩ := Int.eq_ofNat_of_zero_le hsb0
      obtain ⟨tn, rfl⟩ := Int.eq_ofNat_of_zero_le htb0
      have hv4 : v ≤ 4 := by omega
      have hqt := (earl_parts ht).1
      have HT := Lib.hid ht
      obtain ⟨q, hq⟩ : ∃ q, earlV rs (sn : Int) (tn : Int) = q := ⟨_, rfl⟩
      rw [hq] at hqt
      have HQ := Lib.hid hq
      have HQT := Lib.hid hqt
      have hq5 : 5 ≤ q.length := by rw [hqt.len]; exact Nat.le_refl _
      have hq5' : q.length ≤ 5 := by rw [hqt.len]; exact Nat.le_refl _
      have HVV := Lib.hid hvv
      rw [ht] at HTR
      rw [hto] at HIN
      obtain ⟨R, hR⟩ : ∃ R, ridesV rs (sn : Int) (tn : Int) (v : Int) = R := ⟨_, rfl⟩
      have HR := Lib.hid hR
      rw [hR]
      have hl10 := coaches_len hvv
      clear ht hto hto' hq hqt hvv hR
      go_enter Try.func7, Try.ntmps7
      go_wp2_with fail
      refine HTR.out.mono ?_
      rintro e w0 ⟨rfl, hdn⟩
      have HB0 := Lib.hid (show Below w.heap.size w w0 by obtain ⟨n, rfl⟩ := hdn; exact drewBelow _ _)
      have hz0 := HB0.out.size
      clear HTR hdn
      go_wp2_with (go_at_call 18; ((with_reducible refine (HIN.out _).mono ?_); rintro e w' ⟨rfl, rfl⟩))
      refine (specEarl_any A c rs sn tn _ (HGR.out.past HB0.out) hl HS.out).mono ?_
      rw [HQ.out]
      rintro e w1 ⟨A1, c1, rfl, hc1, o1, b1⟩
      obtain ⟨b1', r1, rfl, hb1, hcc⟩ := o1.open (by rw [List.length_map]; omega)
      have x1 := hcc v _ (by rw [List.getElem?_map, getDC_at (by omega)]; rfl)
      have g1 := times_get HQT.out (q := v)
      obtain ⟨u, hu⟩ : ∃ u, q.getD v 0 = u := ⟨_, rfl⟩
      rw [hu] at x1 g1
      have HU := Lib.hid hu
      have HB1 := Lib.hid (HB0.out.trans (b1.mono hz0))
      have hz1 := HB1.out.size
      have k0 : (v : Int) < q.length := by omega
      have k00 : (0 : Int) ≤ v := by omega
      clear hcc hu o1 b1 hc1 HB0
      by_cases hneg : u < 0
      · have HF := Lib.hid (show R = -1 from by rw [← HR.out]; exact ridesV_no (by rw [HQ.out, Int.toNat_natCast, HU.out, decide_eq_false (by omega)]; simp))
        go_wp2
        go_ret
        exact ⟨ret_int HF.out.symm, HB1.out⟩
      · have hpos : 0 ≤ u := by omega
        clear hneg
        go_wp2
        clear x1
        go_loopw [10] (fun i wr => ∃ n : Nat, n ≤ 10 ∧ i = .int .i64 n ∧ (∀ m, m < n → enough rs (sn : Int) (tn : Int) v m = false) ∧ Below w.heap.size w wr) (fun i _ => (11 - intOf i).toNat)
        case atStart => exact ⟨0, by omega, rfl, fun m hm => by omega, HB1.out⟩
        case round =>
          obtain ⟨n, hn10, rfl, hfew, hbr⟩ := hrel
          have HFEW := Lib.hid hfew
          have HBR := Lib.hid hbr
          have hzr := hbr.size
          have hyt := withT_times (cp_ok HVV.out) (s := (sn : Int)) (τ := (tn : Int)) ⟨by omega, by omega⟩ n
          obtain ⟨y, hy⟩ : ∃ y, withT (rs.map cp) (sn : Int) (tn : Int) n = y := ⟨_, rfl⟩
          rw [hy] at hyt
          have hy5 : 5 ≤ y.length := by rw [hyt.len]; exact Nat.le_refl _
          have HY := Lib.hid hy
          have HYT := Lib.hid hyt
          clear hfew hbr hy hyt
          go_wp2_with fail
          refine (within_any A c rs sn tn n _ ((HGR.out.below HBR.out).more hzr) HVV.out (by omega) (by omega) (by omega)).mono ?_
          rw [HY.out]
          rintro e w3 ⟨A3, c3, rfl, hc3, o3, b3⟩
          obtain ⟨b3', r3, rfl, hb3, hcc⟩ := o3.open (by rw [List.length_map]; omega)
          have x3 := hcc v _ (by rw [List.getElem?_map, getDC_at (by omega)]; rfl)
          have g3 := times_get HYT.out (q := v)
          have hen : enough rs (sn : Int) (tn : Int) v n = decide (y.getD v 0 = u) := by unfold enough; rw [HQ.out, HY.out, HU.out]
          obtain ⟨z, hz⟩ : ∃ z, y.getD v 0 = z := ⟨_, rfl⟩
          rw [hz] at x3 g3 hen
          have HEN := Lib.hid hen
          have HB3 := Lib.hid (HBR.out.trans (b3.mono hzr))
          have k3 : (v : Int) < y.length := by omega
          clear hcc hz o3 b3 hc3 hen
          by_cases hzu : z = u
          · have hne : (z != u) = false := by simp; exact hzu
            have HF := Lib.hid (show R = (n : Int) from by
              rw [← HR.out]
              exact ridesV_yes HT.out hv4 (by rw [HQ.out, HU.out]; exact hpos) (by rw [HEN.out]; exact decide_eq_true hzu) HFEW.out hn10)
            clear hzu
            go_wp2
            go_ret
            exact ⟨ret_int HF.out.symm, HB3.out⟩
          · have hne : (z != u) = true := by simp; exact hzu
            have HNE := Lib.hid (show enough rs (sn : Int) (tn : Int) v n = false by rw [HEN.out]; exact decide_eq_false hzu)
            have hn9 : n < 10 := by
              rcases Nat.lt_or_ge n 10 with h | h
              · exact h
              · have := enough_len HT.out v (n := n) (by omega)
                rw [HNE.out] at this; cases this
            clear hzu
            go_wp2
            go_roundw
            case rel => exact ⟨n + 1, by omega, by go_num, fun m hm => by
              rcases Nat.lt_or_ge m n with h | h
              · exact HFEW.out m h
              · obtain rfl : m = n := by omega
                exact HNE.out, HB3.out⟩
            case measure => simp [intOf]; omega
    · have hto' : inR to 0 4 = false := by simpa using hto
      have HF := Lib.hid (ridesV_no (rs := rs) (s := s) (τ := τ) (to := to) (by rw [hto', Bool.false_and, Bool.and_false]))
      rw [ht] at HTR
      rw [hto'] at HIN
      clear ht hto hto'
      go_enter Try.func7, Try.ntmps7
      go_wp2_with fail
      refine HTR.out.mono ?_
      rintro e w0 ⟨rfl, hdn⟩
      have HB0 := Lib.hid (show Below w.heap.size w w0 by obtain ⟨n, rfl⟩ := hdn; exact drewBelow _ _)
      clear HTR hdn
      go_wp2_with (go_at_call 18; ((with_reducible refine (HIN.out _).mono ?_); rintro e w' ⟨rfl, rfl⟩))
      go_ret
      exact ⟨ret_int HF.out.symm, HB0.out⟩
  · have ht' : tripB rs s τ = false := by simpa using ht
    have HF := Lib.hid (ridesV_no (rs := rs) (s := s) (τ := τ) (to := to) (by rw [ht', Bool.false_and]))
    rw [ht'] at HTR
    clear ht ht' HIN
    go_enter Try.func7, Try.ntmps7
    go_wp2_with fail
    refine HTR.out.mono ?_
    rintro e w0 ⟨rfl, hdn⟩
    have HB0 := Lib.hid (show Below w.heap.size w w0 by obtain ⟨n, rfl⟩ := hdn; exact drewBelow _ _)
    clear HTR hdn
    go_wp2
    go_ret
    exact ⟨ret_int HF.out.symm, HB0.out⟩
end Go.Proofs.Ytimbkclhkepgfaa
