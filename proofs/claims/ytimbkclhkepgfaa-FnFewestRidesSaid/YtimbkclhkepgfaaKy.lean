/- The walk of the law FnFewestRides. No condition. -/
import Derived.Test.YtimbkclhkepgfaaKx
import Derived.Test.YtimbkclhkepgfaaKn
namespace Go.Proofs.Ytimbkclhkepgfaa
open Go.RowKit

theorem upTo_is {p : Nat → Bool} : ∀ {F i : Nat}, p (i + F) = true → ∃ N, upTo p F i = N ∧ i ≤ N ∧ N ≤ i + F ∧ p N = true ∧ ∀ m, i ≤ m → m < N → p m = false := by
  intro F
  induction F with
  | zero => intro i h; exact ⟨i, rfl, Nat.le_refl _, Nat.le_refl _, h, fun m a b => by omega⟩
  | succ F ih =>
    intro i h
    simp only [upTo]
    by_cases hi : p i = true
    · exact ⟨i, if_pos hi, Nat.le_refl _, by omega, hi, fun m a b => by omega⟩
    · obtain ⟨N, h1, h2, h3, h4, h5⟩ := ih (i := i + 1) (by rw [show i + 1 + F = i + (F + 1) by omega]; exact h)
      refine ⟨N, by rw [if_neg hi]; exact h1, by omega, by omega, h4, fun m a b => ?_⟩
      by_cases he : m = i
      · subst he; exact Bool.eq_false_iff.2 hi
      · exact h5 m (by omega) b
theorem ridesV_facts {rs : List (List Int)} {s τ to : Int} (hn : ¬ ridesV rs s τ to < 0) : ∃ v N : Nat, to = v ∧ v ≤ 4 ∧ ridesV rs s τ to = N ∧ N ≤ 10 ∧ tripB rs s τ = true ∧ enough rs s τ v N = true ∧ ∀ m, m < N → enough rs s τ v m = false := by
  cases hb : (tripB rs s τ && (inR to 0 4 && decide (0 ≤ (earlV rs s τ).getD to.toNat 0))) with
  | false => exact absurd (by rw [ridesV_no hb]; decide) hn
  | true =>
    have hb' := hb
    simp only [Bool.and_eq_true] at hb'
    obtain ⟨ht, hto, -⟩ := hb'
    have h4 := inR_iff.1 hto
    obtain ⟨v, rfl⟩ := Int.eq_ofNat_of_zero_le h4.1
    obtain ⟨hsb0, hsb1, htb0, htb1, hvv⟩ := trip_bd ht
    have hl := coaches_len hvv
    obtain ⟨N, h1, -, h3, h5, h6⟩ := upTo_is (p := enough rs s τ v) (F := 10) (i := 0) (enough_len ht v (by omega))
    refine ⟨v, N, rfl, by omega, ?_, by omega, ht, h5, fun m a => h6 m (Nat.zero_le _) a⟩
    unfold ridesV
    rw [if_pos hb, Int.toNat_natCast, h1]

set_option maxRecDepth 100000 in
set_option maxHeartbeats 8000000 in
theorem fewestRides_law (A : Option Addr) (c : Nat) (zs : List Int) (v0 : World) (hr : Own v0 0 v0.heap.size A (zs.map (Value.int .u8))) (hx : zs.length ≤ c ∧ c ≤ maxLen ∧ ∀ z ∈ zs, (Lit.int .u8 z).wf = true) :
    Calls Try.prog 3 #[.slice A zs.length c] v0 fun e w' => e = .returned (.bool true) ∧ Below v0.heap.size v0 w' := by
  have hl : zs.length ≤ 9223372036854775807 := by have := hx.1; have := hx.2.1; unfold maxLen at this; omega
  have HX := Lib.hid hx
  clear hx
  by_cases h20 : zs.length ≤ 1048576
  · go_enter Try.func3, Try.ntmps3
    go_wp2_with fail
    refine (drawFR_any _ _ _ _ hr HX.out).mono ?_
    rintro e w ⟨B, d, rs, s, τ, to, rfl, ⟨⟨hs0, hs1⟩, ⟨hτ0, hτ1⟩, ⟨ho0, ho1⟩⟩, h10, hdc, hln, hrg, hb0⟩
    have HM := Lib.hid (show ∀ r ∈ rs, r.length ≤ 1000000000 from fun r h => by have := hln r h; omega)
    have HB0 := Lib.hid hb0
    have z00 := hb0.size
    clear hln hb0
    obtain ⟨R, hR⟩ : ∃ R, ridesV rs s τ to = R := ⟨_, rfl⟩
    have HV := Lib.hid hR
    clear hR
    have g0 := hrg
    clear hrg
    have p0 := Below.refl w.heap.size w
    have z0 : w.heap.size ≤ w.heap.size := Nat.le_refl _
    go_wp2_with fail
    refine (impRides_any _ _ _ _ _ _ _ (g0.row.more (by omega)) HM.out).mono ?_
    rw [HV.out]
    rintro e w1 ⟨rfl, e1⟩
    have z1 := e1.size
    have g1 := g0.keep (by omega) e1
    clear g0
    have p1 := p0.trans (e1.mono (by omega))
    clear p0 e1
    go_wp2_with fail
    refine (specRides_any _ _ _ _ _ _ _ (g1.row.more (by omega)) (by omega) HM.out).mono ?_
    rw [HV.out]
    rintro e w2 ⟨rfl, e2⟩
    have z2 := e2.size
    have g2 := g1.keep (by omega) e2
    clear g1
    have p2 := p1.trans (e2.mono (by omega))
    clear p1 e2
    have hqq : (R != R) = false := by simp
    have hqe : (R == R) = true := by simp
    by_cases hn : R < 0
    · go_wp2_with fail
      refine (specRides_any _ _ _ _ _ _ _ (g2.row.more (by omega)) (by omega) HM.out).mono ?_
      rw [HV.out]
      rintro e w3 ⟨rfl, e3⟩
      have p3 := p2.trans (e3.mono (by omega))
      go_wp2_with fail
      go_ret
      exact ⟨rfl, HB0.out.trans (p3.mono z00)⟩
    obtain ⟨v, N, hto, hv4, hRN, hN10, ht, hen, hlow⟩ := ridesV_facts (rs := rs) (s := s) (τ := τ) (to := to) (by rw [HV.out]; exact hn)
    rw [HV.out] at hRN
    subst hto
    subst hRN
    have hqt := (earl_parts ht).1
    obtain ⟨hsb0, hsb1, htb0, htb1, hvv⟩ := trip_bd ht
    obtain ⟨q, hq⟩ : ∃ q, earlV rs s τ = q := ⟨_, rfl⟩
    rw [hq] at hqt
    have hq5 : 5 ≤ q.length := by rw [hqt.len]; exact Nat.le_refl _
    have hypN : (tripB rs s τ && inR (N : Int) 0 10) = true := by rw [ht, show inR (N : Int) 0 10 = true from inR_iff.2 ⟨by omega, by omega⟩]; rfl
    have hyt := (with_parts hypN).1
    have hyv := withV_yes hypN
    obtain ⟨y, hy⟩ : ∃ y, withV rs s τ (N : Int) = y := ⟨_, rfl⟩
    rw [hy] at hyt hyv
    rw [Int.toNat_natCast] at hyv
    have hy5 : 5 ≤ y.length := by rw [hyt.len]; exact Nat.le_refl _
    obtain ⟨u, hu⟩ : ∃ u, q.getD v 0 = u := ⟨_, rfl⟩
    have hyu : y.getD v 0 = u := by have h := hen; unfold enough at h; rw [hq, ← hyv, hu] at h; exact of_decide_eq_true h
    have HQ := Lib.hid hq
    have HQT := Lib.hid hqt
    have HT := Lib.hid ht
    have HU := Lib.hid hu
    have HYU := Lib.hid hyu
    have HY := Lib.hid hy
    have HYT := Lib.hid hyt
    have HLOW := Lib.hid hlow
    clear hq hqt ht hu hyu hy hyt hlow hyv hen hypN hvv
    go_wp2_with fail
    refine (impE_any _ _ _ _ _ _ (g2.row.more (by omega)) HM.out).mono ?_
    rw [HQ.out]
    rintro e w3 ⟨A3, c3, rfl, hc3, o3, e3⟩
    obtain ⟨b3', r3, rfl, hb3, hcc⟩ := o3.open (by rw [List.length_map]; omega)
    have x3 := hcc v _ (by rw [List.getElem?_map, getDC_at (by omega)]; rfl)
    have t3 := times_get HQT.out (q := v)
    rw [HU.out] at x3 t3
    have k0 : (v : Int) < q.length := by omega
    have k00 : (0 : Int) ≤ v := by omega
    have z3 := e3.size
    have g3 := g2.keep (by omega) e3
    clear g2
    have p3 := p2.trans (e3.mono (by omega))
    clear p2 e3 hcc o3 hc3
    go_wp2_with fail
    clear x3
    refine (impF_any _ _ _ _ _ _ _ (g3.row.more (by omega)) HM.out).mono ?_
    rw [HY.out]
    rintro e w4 ⟨A4, c4, rfl, hc4, o4, e4⟩
    obtain ⟨b4', r4, rfl, hb4, hcc⟩ := o4.open (by rw [List.length_map]; omega)
    have x4 := hcc v _ (by rw [List.getElem?_map, getDC_at (by omega)]; rfl)
    rw [HYU.out] at x4
    have k4 : (v : Int) < y.length := by omega
    have z4 := e4.size
    have g4 := g3.keep (by omega) e4
    clear g3
    have p4 := p3.trans (e4.mono (by omega))
    clear p3 e4 hcc o4 hc4
    have huu : (u != u) = false := by simp
    by_cases h0 : N = 0
    · have hd0 : ((N : Int) == 0) = true := beq_iff_eq.2 (by omega)
      go_wp2_with fail
      go_ret
      exact ⟨rfl, HB0.out.trans (p4.mono z00)⟩
    have hd0 : ((N : Int) == 0) = false := beq_eq_false_iff_ne.2 (by omega)
    obtain ⟨M, hM⟩ : ∃ M : Nat, M + 1 = N := ⟨N - 1, by omega⟩
    have hypM : (tripB rs s τ && inR (M : Int) 0 10) = true := by rw [HT.out, show inR (M : Int) 0 10 = true from inR_iff.2 ⟨by omega, by omega⟩]; rfl
    have hyt := (with_parts hypM).1
    have hyv := withV_yes hypM
    obtain ⟨y2, hy⟩ : ∃ y2, withV rs s τ (M : Int) = y2 := ⟨_, rfl⟩
    rw [hy] at hyt hyv
    rw [Int.toNat_natCast] at hyv
    have hy25 : 5 ≤ y2.length := by rw [hyt.len]; exact Nat.le_refl _
    obtain ⟨z, hz⟩ : ∃ z, y2.getD v 0 = z := ⟨_, rfl⟩
    have hzu : (z != u) = true := by
      have h := HLOW.out M (by omega)
      unfold enough at h
      rw [HQ.out, ← hyv, HU.out, hz] at h
      exact bne_iff_ne.2 (of_decide_eq_false h)
    have tz := times_get hyt (q := v)
    rw [hz] at tz
    have HY2 := Lib.hid hy
    have HZ := Lib.hid hz
    have hwp : IntKind.i64.wrap ((N : Int) - 1) = (M : Int) := by rw [show (N : Int) - 1 = (M : Int) by omega]; exact IntWalk.i64_in _ (by omega)
    clear hy hz hyv hyt hypM
    go_wp2_with fail
    clear x4
    refine (impF_any _ _ _ _ _ (M : Int) _ (g4.row.more (by omega)) HM.out).mono ?_
    rw [HY2.out]
    rintro e w5 ⟨A5, c5, rfl, hc5, o5, e5⟩
    obtain ⟨b5', r5, rfl, hb5, hcc⟩ := o5.open (by rw [List.length_map]; omega)
    have x5 := hcc v _ (by rw [List.getElem?_map, getDC_at (by omega)]; rfl)
    rw [HZ.out] at x5
    have k5 : (v : Int) < y2.length := by omega
    have p5 := p4.trans (e5.mono (by omega))
    clear p4 e5 hcc o5 hc5
    go_wp2_with fail
    go_ret
    exact ⟨rfl, HB0.out.trans (p5.mono z00)⟩
  · go_enter Try.func3, Try.ntmps3
    go_wp2
    go_ret
    exact ⟨rfl, Below.refl _ _⟩
end Go.Proofs.Ytimbkclhkepgfaa
