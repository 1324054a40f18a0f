/- Hops: ArriveChance on both sides. No condition. -/
import Derived.Test.YtonnffilcmlodabVo
import Derived.Test.YtonnffilcmlodabS1
import Derived.Test.YtonnffilcmlodabA1
namespace Go.Proofs.Ytonnffilcmlodab
open Go.RowKit

/-- The answer of ArriveChance. -/
def arrQ (zs : List Int) : Nat × Nat := if hopsB zs then arr zs else (0, 0)
theorem arrQ_yes {zs : List Int} (h : hopsB zs = true) : arrQ zs = arr zs := by rw [arrQ, if_pos h]
theorem arrQ_no {zs : List Int} (h : hopsB zs = false) : arrQ zs = (0, 0) := by rw [arrQ, if_neg (by simp [h])]
theorem results_cell2 {fn : Func} {t s : Tmp} {ty : TypeId} {P : Program} {tmps : Array Value} {w : World} {v u : Value} {a : Addr} (h : fn.results = #[.cell t ty, .tmp s]) (ht : tmps[t]?.getD undef = .pointer (some a)) (hs : tmps[s]?.getD undef = u) (hl : (loadVar ty a).run P w = .ok v w) :
    (results fn tmps).run P w = .ok (.tuple #[v, u]) w := by
  simp [results, h, ht, hs, asAddr, hl]
theorem ten_pow_le {n : Nat} (h : n ≤ 5) : 10 ^ n ≤ 1000000000000000 := Nat.le_trans (ten_le h) (by omega)
theorem hopsB_no {zs : List Int} {k : Nat} (hk : k < zs.length) (h : inR zs[k] 0 10 = false) : hopsB zs = false := by rw [hopsB, all_no hk h, Bool.false_and]

set_option maxRecDepth 100000 in
set_option maxHeartbeats 2000000 in
theorem validHops_any (A : Option Addr) (c : Nat) (zs : List Int) (w : World) (hr : Ints w w.heap.size A zs) (hl : zs.length ≤ 9000000000000000000) :
    Calls Try.prog 33 #[.slice A zs.length c] w fun e w' => e = .returned (.bool (hopsB zs)) ∧ w = w' := by
  have HIN := Lib.hid (fun (a lo hi : Int) (b : Bool) (hb : inR a lo hi = b) (X : World) => show Calls Try.prog 42 #[.int .i64 a, .int .i64 lo, .int .i64 hi] X fun e w' => e = .returned (.bool b) ∧ X = w' from by have := inRange_any a lo hi X; rw [hb] at this; exact this)
  go_enter Try.func33, Try.ntmps33
  go_wp2
  go_loop [3] (fun i => ∃ k : Nat, k ≤ zs.length ∧ i = .int .i64 k ∧ Hid ((zs.take k).all (fun z => inR z 0 10) = true)) (fun i => zs.length - (intOf i).toNat)
  case atStart => exact ⟨0, by omega, rfl, Lib.hid (by simp)⟩
  case round =>
    obtain ⟨k, hk, rfl, HA⟩ := hrel
    by_cases hlt : k < zs.length
    · obtain ⟨b, o, rfl, hb, hc⟩ := hr.open (by simp; omega)
      have hcell := ints_at hc hlt
      have HT := Lib.hid (take_all (p := fun z => inR z 0 10) hlt)
      have HN := Lib.hid (hopsB_no hlt)
      have hkI : (k : Int) < zs.length := by omega
      obtain ⟨z, hz⟩ : ∃ z, zs[k] = z := ⟨_, rfl⟩
      rw [hz] at hcell HT HN
      clear hc hz
      by_cases i0 : inR z 0 10 = true
      · have HI := Lib.hid (HIN.out z 0 10 true i0)
        have HAK := Lib.hid (show (zs.take (k + 1)).all (fun z => inR z 0 10) = true by rw [HT.out, HA.out, i0]; rfl)
        clear i0
        go_wp2_with (go_at_call 42; (with_reducible refine (HI.out _).mono ?_); rintro e w' ⟨rfl, rfl⟩)
        go_round
        case rel => exact ⟨k + 1, by omega, by go_num, HAK⟩
        case measure => simp [intOf]; omega
      · have i0' : inR z 0 10 = false := by simpa using i0
        have HI := Lib.hid (HIN.out z 0 10 false i0')
        have HF := Lib.hid (HN.out i0')
        clear i0 i0'
        go_wp2_with (go_at_call 42; (with_reducible refine (HI.out _).mono ?_); rintro e w' ⟨rfl, rfl⟩)
        go_ret
        exact ⟨ret_bool HF.out.symm, rfl⟩
    · have hk' : k = zs.length := by omega
      subst hk'
      have HF := Lib.hid (show hopsB zs = inR (zs.length : Int) 1 5 by have := HA.out; rw [List.take_length] at this; rw [hopsB, this, Bool.true_and])
      obtain ⟨q, hq⟩ : ∃ q, inR (zs.length : Int) 1 5 = q := ⟨_, rfl⟩
      have HI := Lib.hid (HIN.out (zs.length : Int) 1 5 q hq)
      rw [hq] at HF
      clear hq
      go_wp2_with (go_at_call 42; (with_reducible refine (HI.out _).mono ?_); rintro e w' ⟨rfl, rfl⟩)
      go_ret
      exact ⟨ret_bool HF.out.symm, rfl⟩

set_option maxRecDepth 100000 in
theorem areHops_any (A : Option Addr) (c : Nat) (zs : List Int) (w : World) (hr : Ints w w.heap.size A zs) (hl : zs.length ≤ 9000000000000000000) :
    Calls Try.prog 30 #[.slice A zs.length c] w fun e w' => e = .returned (.bool (hopsB zs)) ∧ w = w' := by
  have HC := Lib.hid (areBelow_any A c zs 11 w hr hl)
  have HB := Lib.hid (show belB 11 zs = zs.all (fun z => inR z 0 10) from rfl)
  obtain ⟨q, hq⟩ : ∃ q, zs.all (fun z => inR z 0 10) = q := ⟨_, rfl⟩
  have HQ := Lib.hid hq
  rw [HB.out, hq] at HC
  clear hq
  by_cases h1 : 1 ≤ zs.length
  · have t1 : decide ((1 : Int) ≤ (zs.length : Int)) = true := decide_eq_true (by omega)
    have t1' : decide (1 ≤ zs.length) = true := decide_eq_true h1
    by_cases h5 : zs.length ≤ 5
    · have t5 : decide ((zs.length : Int) ≤ 5) = true := decide_eq_true (by omega)
      have t5' : decide (zs.length ≤ 5) = true := decide_eq_true h5
      have HF := Lib.hid (show hopsB zs = q by rw [hopsB, HQ.out, inR_iff.2 (by omega), Bool.and_true])
      clear h1 h5
      go_enter Try.func30, Try.ntmps30
      go_wp2_with (go_at_call 40; (with_reducible refine HC.out.mono ?_); rintro e w' ⟨rfl, rfl⟩)
      go_ret
      exact ⟨ret_bool HF.out.symm, rfl⟩
    · have t5 : decide ((zs.length : Int) ≤ 5) = false := decide_eq_false (by omega)
      have t5' : decide (zs.length ≤ 5) = false := decide_eq_false h5
      have HF := Lib.hid (show hopsB zs = false by rw [hopsB, show inR (zs.length : Int) 1 5 = false by simp [inR]; omega, Bool.and_false])
      clear h1 h5
      go_enter Try.func30, Try.ntmps30
      go_wp2_with (go_at_call 40; (with_reducible refine HC.out.mono ?_); rintro e w' ⟨rfl, rfl⟩)
      go_ret
      exact ⟨ret_bool HF.out.symm, rfl⟩
  · have t1 : decide ((1 : Int) ≤ (zs.length : Int)) = false := decide_eq_false (by omega)
    have t1' : decide (1 ≤ zs.length) = false := decide_eq_false h1
    have HF := Lib.hid (show hopsB zs = false by rw [hopsB, show inR (zs.length : Int) 1 5 = false by simp [inR]; omega, Bool.and_false])
    clear h1
    go_enter Try.func30, Try.ntmps30
    go_wp2_with (go_at_call 40; (with_reducible refine HC.out.mono ?_); rintro e w' ⟨rfl, rfl⟩)
    go_ret
    exact ⟨ret_bool HF.out.symm, rfl⟩

set_option maxRecDepth 100000 in
set_option maxHeartbeats 4000000 in
theorem specArrive_any (A : Option Addr) (c : Nat) (zs : List Int) (w : World) (hr : Ints w w.heap.size A zs) (hl : zs.length ≤ 9000000000000000000) :
    Calls Try.prog 10 #[.slice A zs.length c] w fun e w' => e = .returned (.tuple #[frV (arrQ zs), .bool (hopsB zs)]) ∧ Below w.heap.size w w' := by
  have HB1 := Lib.hid (show Below w.heap.size w (w.alloc (.cells #[.int .i64 0, .int .i64 0] 26)) from (Below.refl _ _).alloc (Nat.le_refl _) _)
  have HX := Lib.hid (FBox.new w (.int .i64 0) (.int .i64 0))
  have HV := Lib.hid (validHops_any A c zs (w.alloc (.cells #[.int .i64 0, .int .i64 0] 26)) ((hr.below HB1.out).more HB1.out.size) hl)
  by_cases hv : hopsB zs = true
  · obtain ⟨h0, h1, h5⟩ := hops_of hv
    have HA := Lib.hid (arrQ_yes hv)
    rw [hv] at HV ⊢
    rw [HA.out]
    have HPW := Lib.hid (fun X => show Calls Try.prog 35 #[.int .i64 10, .int .i64 (zs.length : Int)] X fun e w' => e = .returned (.int .i64 ((10 ^ zs.length : Nat) : Int)) ∧ X = w' from power_any 10 zs.length X (by omega) (ten_pow_le h5) (by omega))
    have htp := ten_le h5
    have ht0 := ten_pos zs.length
    have HAR := Lib.hid (show arr zs = red (prL zs) (10 ^ zs.length) from rfl)
    have HPL := Lib.hid (fun k (hk : k ≤ zs.length) => show prL (zs.take k) ≤ 100000 from Nat.le_trans (prL_le _) (ten_le (by rw [List.length_take]; omega)))
    obtain ⟨T, hT⟩ : ∃ T, 10 ^ zs.length = T := ⟨_, rfl⟩
    rw [hT] at HPW htp ht0 HAR
    have HH := Lib.hid h0
    have HR := Lib.hid (hr.below HB1.out)
    obtain ⟨W, hW⟩ : ∃ W, w.alloc (.cells #[.int .i64 0, .int .i64 0] 26) = W := ⟨_, rfl⟩
    rw [hW] at HB1 HX HV HR
    clear hv hT h0 hr
    go_enter Try.func10, Try.ntmps10
    go_wp2_with (go_at_call 33; (with_reducible refine HV.out.mono ?_); rintro e w' ⟨rfl, rfl⟩)
    clear hW HV
    go_loop [4, 5] (fun u i => ∃ k : Nat, k ≤ zs.length ∧ i = .int .i64 k ∧ u = .int .i64 (prL (zs.take k) : Nat)) (fun _ i => zs.length - (intOf i).toNat)
    case atStart => exact ⟨0, by omega, rfl, rfl⟩
    case round =>
      obtain ⟨k, hk, rfl, rfl⟩ := hrel
      by_cases hlt : k < zs.length
      · obtain ⟨b, o, rfl, hb, hc⟩ := HR.out.open (by simp; omega)
        have hcell := ints_at hc hlt
        have hzb := HH.out _ (List.getElem_mem hlt)
        have HTK := Lib.hid (prL_take hlt)
        have hp1 := HPL.out k hk
        have hp2 := HPL.out (k + 1) (by omega)
        rw [HTK.out] at hp2
        obtain ⟨z, hz⟩ : ∃ z, zs[k] = z := ⟨_, rfl⟩
        rw [hz] at hcell HTK hzb hp2
        obtain ⟨y, rfl⟩ : ∃ y : Nat, z = y := ⟨z.toNat, by omega⟩
        rw [Int.toNat_natCast] at HTK hp2
        have e10 : (10 : Int) - (y : Int) = ((10 - y : Nat) : Int) := by omega
        obtain ⟨t, ht⟩ : ∃ t, 10 - y = t := ⟨_, rfl⟩
        obtain ⟨P, hP⟩ : ∃ P, prL (zs.take k) = P := ⟨_, rfl⟩
        rw [ht] at e10 HTK hp2
        rw [hP] at HTK hp1 hp2 ⊢
        have em : (P : Int) * (t : Int) = ((P * t : Nat) : Int) := (Int.natCast_mul _ _).symm
        obtain ⟨Q, hQ⟩ : ∃ Q, P * t = Q := ⟨_, rfl⟩
        rw [hQ] at HTK em hp2
        have hkI : (k : Int) < zs.length := by omega
        have ht10 : t ≤ 10 := by omega
        clear hc hz ht hP hQ hzb
        go_wp2
        go_round
        case rel => exact ⟨k + 1, by omega, by go_num, by rw [HTK.out]⟩
        case measure => simp [intOf]; omega
      · have hke : k = zs.length := by omega
        subst hke
        have HE := Lib.hid (show prL (zs.take zs.length) = prL zs by rw [List.take_length])
        have hp1 := HPL.out zs.length (Nat.le_refl _)
        rw [HE.out] at hp1 ⊢
        obtain ⟨P, hP⟩ : ∃ P, prL zs = P := ⟨_, rfl⟩
        rw [hP] at hp1 HAR ⊢
        have HFR := Lib.hid (fun X => frac_any P T X ht0 (by omega) (by omega))
        obtain ⟨r, hr⟩ : ∃ r, red P T = r := ⟨_, rfl⟩
        rw [hr] at HFR HAR
        obtain ⟨r1, r2⟩ := r
        unfold frV at HFR
        dsimp only at HFR
        clear hP hr
        go_wp2_with (go_at_call 35; (with_reducible refine (HPW.out _).mono ?_); rintro e w' ⟨rfl, rfl⟩)
        refine (HFR.out _).mono ?_
        rintro e w5 ⟨rfl, hb5⟩
        obtain ⟨z1, z2, k0, k1, f0, f1, _⟩ := HX.out.keep hb5 HX.out.lt
        have HBB := Lib.hid (HB1.out.trans (hb5.mono HB1.out.size))
        clear hb5
        go_wp2
        have hcs := cellsF_set (x := .int .i64 (r1 : Int)) (y := .int .i64 (r2 : Int)) k0 k1
        have hbb := (HBB.out.setCell (p := ⟨w.heap.size, 0, none⟩) (by show w.heap.size ≤ w.heap.size; omega) (.int .i64 (r1 : Int))).setCell (p := ⟨w.heap.size, 1, none⟩) (by show w.heap.size ≤ w.heap.size; omega) (.int .i64 (r2 : Int))
        refine bodyPost_ret (results_cell2 rfl rfl rfl (loadFc hcs.1 hcs.2)) rfl ?_
        exact ⟨by rw [HAR.out]; rfl, hbb⟩
  · have hv' : hopsB zs = false := by simpa using hv
    have HA := Lib.hid (arrQ_no hv')
    rw [hv'] at HV ⊢
    rw [HA.out]
    clear hv hv' hr
    obtain ⟨W, hW⟩ : ∃ W, w.alloc (.cells #[.int .i64 0, .int .i64 0] 26) = W := ⟨_, rfl⟩
    rw [hW] at HB1 HX HV
    obtain ⟨z1, z2, k0, k1, f0, f1, _⟩ := HX.out
    go_enter Try.func10, Try.ntmps10
    go_wp2_with (go_at_call 33; (with_reducible refine HV.out.mono ?_); rintro e w' ⟨rfl, rfl⟩)
    have hcs := cellsF_set (x := .int .i64 0) (y := .int .i64 0) k0 k1
    have hbb := (HB1.out.setCell (p := ⟨w.heap.size, 0, none⟩) (by show w.heap.size ≤ w.heap.size; omega) (.int .i64 0)).setCell (p := ⟨w.heap.size, 1, none⟩) (by show w.heap.size ≤ w.heap.size; omega) (.int .i64 0)
    refine bodyPost_ret (results_cell2 rfl rfl rfl (loadFc hcs.1 hcs.2)) rfl ?_
    exact ⟨rfl, hbb⟩
end Go.Proofs.Ytonnffilcmlodab
