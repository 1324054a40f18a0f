/- spec.risingRow, spec.RisingRow. No condition. -/
import Derived.Test.YthfmmdigecjfnaaJ4
import Derived.Test.YthfmmdigecjfnaaI8
import Derived.StillTailTactics
namespace Go.Proofs.Ythfmmdigecjfnaa
open Go.RowKit

theorem mostTo_len {zs : List Int} (h : mostTo zs zs.length ≤ 9) : mostTo zs zs.length ≤ 9 := h
/-- What stands in 'ahead' when the places from n - t on are done. -/
def ahd (zs : List Int) (t : Nat) : List Int := tab zs.length fun j => if zs.length ≤ j + t then (dn zs j : Int) else 0
theorem ahd_zero (zs : List Int) : ahd zs 0 = List.replicate zs.length 0 := by
  unfold ahd; rw [tab_zero]; exact tab_congr fun j hj => by rw [if_neg (by omega)]
theorem ahd_get {zs : List Int} {t j : Nat} (hj : j < zs.length) (h : zs.length ≤ j + t) : ((ahd zs t).map (Value.int .i64))[j]? = some (.int .i64 (dn zs j)) := by
  unfold ahd; rw [tab_vals_get hj, if_pos h]
/-- .. and place i is under way. -/
def ahdAt (zs : List Int) (t i : Nat) (v : Nat) : List Int := (ahd zs t).set i (v : Int)
theorem ahdAt_len (zs : List Int) (t i v : Nat) : (ahdAt zs t i v).length = zs.length := by simp [ahdAt, ahd, tab_length]
theorem ahdAt_set (zs : List Int) (t i v v' : Nat) : (ahdAt zs t i v).set i (v' : Int) = ahdAt zs t i v' := by simp [ahdAt]
theorem ahdAt_end {zs : List Int} {t i : Nat} (h : i + t + 1 = zs.length) : ahdAt zs t i (dn zs i) = ahd zs (t + 1) := by
  unfold ahdAt ahd
  refine tab_set' fun j hj => ?_
  by_cases e : j = i
  · subst e; rw [if_pos rfl, if_pos (by omega)]
  · rw [if_neg e]
    by_cases h2 : zs.length ≤ j + t
    · rw [if_pos h2, if_pos (by omega)]
    · rw [if_neg h2, if_neg (by omega)]
theorem ahdAt_same {zs : List Int} {t i v : Nat} (hi : i < zs.length) : ((ahdAt zs t i v).map (Value.int .i64))[i]? = some (.int .i64 v) := by
  rw [List.getElem?_map]
  unfold ahdAt
  rw [List.getElem?_set]
  simp [ahd, tab_length, hi]
theorem ahdAt_other {zs : List Int} {t i j v : Nat} (hj : j < zs.length) (h : zs.length ≤ j + t) (hij : i ≠ j) : ((ahdAt zs t i v).map (Value.int .i64))[j]? = some (.int .i64 (dn zs j)) := by
  rw [List.getElem?_map]
  unfold ahdAt
  rw [List.getElem?_set, if_neg hij]
  have := ahd_get hj h
  rwa [List.getElem?_map] at this
theorem dnTo_leN {zs : List Int} {i m : Nat} (h : i + m < zs.length) : dnTo zs (dn zs) i m ≤ zs.length := by
  have := dnTo_le (zs := zs) (f := dn zs) (i := i) (m := m) (B := zs.length - 1) (fun k h1 h2 => by have := dn_le (zs := zs) (show k < zs.length by omega); omega)
  omega

theorem own_belowJ {w w' : World} {base n : Nat} {e : TypeId} {v : Value} {size : Nat} {xs : List Value} (h : w.ownsRow base e size v n xs) (hb : Below w.heap.size w w') : w'.ownsRow base e size v n xs := by
  refine ⟨h.1, ?_⟩
  rcases h.2 with hn | ⟨k, cap, cur, rfl, hb2, hgg, rest⟩
  · exact .inl hn
  · exact .inr ⟨k, cap, cur, rfl, hb2, by rw [hb.block k (Array.getElem?_eq_some_iff.1 hgg).1]; exact hgg, rest⟩

set_option maxRecDepth 100000 in
set_option maxHeartbeats 16000000 in
theorem specRisingRow_any (A : Option Addr) (c0 : Nat) (zs : List Int) (w : World) (hr : Ints w w.heap.size A zs) (hv : rowB 9 zs = true) :
    Calls Try.prog 49 #[.slice A zs.length c0] w (iRes w (riseL zs)) := by
  obtain ⟨i0, hi0, hz0, hz1, hz2⟩ := info_parts Try.info3
  have hl := rowB_len hv
  have HV := Lib.hid hv
  clear hv
  go_enter Try.func49, Try.ntmps49
  go_wp2_with (at_make; refine wpList_make_full _ rfl (.tmp 15) (.tmp 15) _ rfl w.heap.size 3 i0 (.int .i64 0) 1 Try.underlying22 hi0 hz0 hz1 _ _ _ _ _ rfl rfl rfl rfl (by rw [hz2]; omega) (by unfold maxLen; omega) (Nat.le_refl _) ?_)
  intro w1 hown1 hg1
  have hb1 : Below w.heap.size w w1 := (Below.refl _ _).grown hg1 (Nat.le_refl _) (by simp)
  rw [toList_madeCells_one] at hown1
  have hown1' : w1.ownsRow w.heap.size 3 1 (.slice (some ⟨w.heap.size, 0, none⟩) zs.length zs.length) zs.length ((ahd zs 0).map (Value.int .i64)) := by rw [ahd_zero, List.map_replicate]; exact hown1
  have HIN := Lib.hid (And.intro hown1' hb1)
  clear hown1 hown1' hg1 hb1
  go_wp2
  go_loopw [5, 6] (fun m i wr => ∃ t : Nat, t ≤ zs.length ∧ i = .int .i64 ((zs.length : Int) - 1 - t) ∧ m = .int .i64 (mostTo zs t : Nat) ∧ wr.ownsRow w.heap.size 3 1 (.slice (some ⟨w.heap.size, 0, none⟩) zs.length zs.length) zs.length ((ahd zs t).map (Value.int .i64)) ∧ Below w.heap.size w wr) (fun _ i _ => (intOf i + 1).toNat)
  case atStart => exact ⟨0, by omega, by go_num, rfl, HIN.out.1, HIN.out.2⟩
  case round =>
    clear HIN
    obtain ⟨t, ht, rfl, rfl, hown, hbr⟩ := hrel
    have HO := Lib.hid hown
    have HBR := Lib.hid hbr
    have hbz := hbr.size
    obtain ⟨W, hW⟩ : ∃ W : World, W = wr := ⟨_, rfl⟩
    subst hW
    have hmt := mostTo_le zs ht
    by_cases hlt : t < zs.length
    · obtain ⟨i, hi⟩ : ∃ i, i + t + 1 = zs.length := ⟨zs.length - 1 - t, by omega⟩
      have hil : i < zs.length := by omega
      have hidx : (zs.length : Int) - 1 - (t : Int) = (i : Int) := by omega
      rw [hidx]
      have HIX := Lib.hid (And.intro hidx hi)
      obtain ⟨b, o, rfl, hb, hc⟩ := (hr.below hbr).open (by simp; omega)
      have HC := Lib.hid hc
      -- the number 1 is laid
      have hst := hown.stored i (.int .i64 1)
      have hfr := hown.frozenAt i
      have hat0 := hown.cellAt i (by omega)
      obtain ⟨u0, hu0⟩ : ∃ u0, W.cell? ⟨w.heap.size, i, none⟩ = some u0 := ⟨_, by rw [hat0]; exact List.getElem?_eq_getElem (by simp [ahd, tab_length]; exact hil)⟩
      obtain ⟨V, hVV⟩ : ∃ V, W.setCell ⟨w.heap.size, i, none⟩ (.int .i64 1) = V := ⟨_, rfl⟩
      have HVV := Lib.hid hVV
      rw [hVV] at hst
      have hsz2 : V.heap.size = W.heap.size := by rw [← hVV]; simp
      have hbV : Below w.heap.size w V := hbr.grown hst.2 hbz (fun j hj => by injection hj with hj; omega)
      have HSV := Lib.hid (show V.ownsRow w.heap.size 3 1 (.slice (some ⟨w.heap.size, 0, none⟩) zs.length zs.length) zs.length ((ahdAt zs t i 1).map (Value.int .i64)) by
        have := hst.1
        unfold ahdAt
        rw [List.map_set]; exact this)
      have HBV := Lib.hid hbV
      have hi0I : (0 : Int) ≤ (i : Int) := by omega
      have hiI : (i : Int) < zs.length := by omega
      clear hown hbr hst hat0 hsz2 hbV hc hidx hi
      go_wp2_with fail
      go_loopw [7] (fun k wr => ∃ m : Nat, i + m + 1 ≤ zs.length ∧ k = .int .i64 ((i + 1 + m : Nat) : Int) ∧ wr.ownsRow w.heap.size 3 1 (.slice (some ⟨w.heap.size, 0, none⟩) zs.length zs.length) zs.length ((ahdAt zs t i (dnTo zs (dn zs) i m)).map (Value.int .i64)) ∧ Below w.heap.size w wr) (fun k _ => zs.length - (intOf k).toNat)
      case atStart => exact ⟨0, by omega, by go_num, HSV.out, HBV.out⟩
      case round =>
        clear HSV HBV
        obtain ⟨m, hm, rfl, hown, hbr⟩ := hrel
        have HO2 := Lib.hid hown
        have HBR2 := Lib.hid hbr
        have hbz2 := hbr.size
        have hun := dnTo_leN (zs := zs) (i := i) (m := m) (by omega)
        have hatI := hown.cellAt i (by omega)
        rw [ahdAt_same hil] at hatI
        have hfrI := hown.frozenAt i
        obtain ⟨k, hk⟩ : ∃ k, i + 1 + m = k := ⟨_, rfl⟩
        rw [hk]
        obtain ⟨b', o', e', hb', hc⟩ := (hr.below hbr).open (by simp; omega)
        simp only [Option.some.injEq, Addr.mk.injEq, and_true] at e'
        obtain ⟨rfl, rfl⟩ := e'
        by_cases hlt2 : k < zs.length
        · have hcI := ints_atD hc hil
          have hcK := ints_atD hc hlt2
          have hdk := dn_le (zs := zs) hlt2
          have hatK := hown.cellAt k (by omega)
          rw [ahdAt_other hlt2 (by have := HIX.out.2; omega) (by omega)] at hatK
          obtain ⟨zi, hzi⟩ : ∃ z, zs.getD i 0 = z := ⟨_, rfl⟩
          obtain ⟨zk, hzk⟩ : ∃ z, zs.getD k 0 = z := ⟨_, rfl⟩
          rw [hzi] at hcI
          rw [hzk] at hcK
          obtain ⟨D, hD⟩ : ∃ D, dn zs k = D := ⟨_, rfl⟩
          rw [hD] at hatK hdk
          have HSTEP := Lib.hid (show dnTo zs (dn zs) i (m + 1) = if zi < zk then max (dnTo zs (dn zs) i m) (D + 1) else dnTo zs (dn zs) i m by simp only [dnTo]; rw [hk, hzi, hzk, hD])
          obtain ⟨U, hU⟩ : ∃ U, dnTo zs (dn zs) i m = U := ⟨_, rfl⟩
          rw [hU] at hatI hun HSTEP
          have HU := Lib.hid hU
          have HK := Lib.hid hk
          have hkI : (k : Int) < zs.length := by omega
          have hk0 : (0 : Int) ≤ (k : Int) := by omega
          by_cases hz : zi < zk
          · have hd : decide (zi < zk) = true := decide_eq_true hz
            have HF := Lib.hid (show dnTo zs (dn zs) i (m + 1) = max U (D + 1) by rw [HSTEP.out, if_pos hz])
            have hD9 : D ≤ 9 := by omega
            have hU9 : U ≤ 9 := by omega
            clear hown hbr hc hzi hzk hD hU hk hz hdk
            go_wp2
            go_quiet (fail)
            go_simp
            have HX := Lib.hid (show Below wr.heap.size wr (wr.drewN nq) from below_drewN (Below.refl _ _) nq)
            generalize wr.drewN nq = X at HX ⊢
            have hXI : X.cell? ⟨w.heap.size, i, none⟩ = some (.int .i64 (U : Int)) := (HX.out.cell (p := ⟨w.heap.size, i, none⟩) (by have := (HO2.out.lt w.heap.size rfl).2; simp only; omega)).trans hatI
            have hXK : X.cell? ⟨w.heap.size, k, none⟩ = some (.int .i64 (D : Int)) := (HX.out.cell (p := ⟨w.heap.size, k, none⟩) (by have := (HO2.out.lt w.heap.size rfl).2; simp only; omega)).trans hatK
            have hXF : X.frozen? ⟨w.heap.size, i, none⟩ = false := (HX.out.frozen (p := ⟨w.heap.size, i, none⟩) (by have := (HO2.out.lt w.heap.size rfl).2; simp only; omega)).trans hfrI
            clear hatI hatK hfrI hcI hcK hd
            go_wp2_with fail
            go_still_tail 13, (by kernel_rfl)
            change wpList _ _ _ _ _ X.drew
            obtain ⟨X1, hX1⟩ : ∃ X1, X.drew = X1 := ⟨_, rfl⟩
            have hbx : Below X.heap.size X X1 := by rw [← hX1]; exact ⟨rfl, rfl, rfl, Nat.le_refl _, fun _ _ => rfl⟩
            have n1 : X1.cell? ⟨w.heap.size, i, none⟩ = some (.int .i64 (U : Int)) := by rw [← hX1]; exact hXI
            have n2 : X1.frozen? ⟨w.heap.size, i, none⟩ = false := by rw [← hX1]; exact hXF
            have hownX : X1.ownsRow w.heap.size 3 1 (.slice (some ⟨w.heap.size, 0, none⟩) zs.length zs.length) zs.length ((ahdAt zs t i U).map (Value.int .i64)) := by
              have h1 := own_belowJ HO2.out HX.out
              have h2 := own_belowJ h1 hbx
              rwa [HU.out] at h2
            have hst := hownX.stored i (.int .i64 (max (U : Int) ((D : Int) + 1)))
            have hbX : Below w.heap.size w X1 := (HBR2.out.trans (HX.out.mono hbz2)).trans (hbx.mono (by have := HX.out.size; omega))
            have hbX2 := hbX.grown hst.2 hbX.size (fun j hj => by injection hj with hj; omega)
            have HFIN := Lib.hid (And.intro (show (X1.setCell ⟨w.heap.size, i, none⟩ (.int .i64 (max (U : Int) ((D : Int) + 1)))).ownsRow w.heap.size 3 1 (.slice (some ⟨w.heap.size, 0, none⟩) zs.length zs.length) zs.length ((ahdAt zs t i (dnTo zs (dn zs) i (m + 1))).map (Value.int .i64)) by
              have h1 := hst.1
              rw [HF.out]
              have h2 := ahdAt_set zs t i U (max U (D + 1))
              rw [← h2, List.map_set]
              have h3 : ((max U (D + 1) : Nat) : Int) = max (U : Int) ((D : Int) + 1) := by omega
              rw [h3]; exact h1) hbX2)
            rw [hX1]
            clear hX1 hXI hXK hXF hownX hst hbX hbX2 hbx
            go_wp2_with fail
            go_roundw
            case rel => exact ⟨m + 1, by have := HK.out; omega, by have := HK.out; exact congrArg (Value.int .i64) (by omega), HFIN.out.1, HFIN.out.2⟩
            case measure => simp [intOf]; omega
          · have hd : decide (zi < zk) = false := decide_eq_false hz
            have HF := Lib.hid (show dnTo zs (dn zs) i (m + 1) = dnTo zs (dn zs) i m by rw [HSTEP.out, if_neg hz, HU.out])
            clear hown hbr hc hzi hzk hD hU hk hz hdk
            go_wp2
            go_quiet (fail)
            go_simp
            clear hd
            go_wp2
            go_roundw
            case rel => exact ⟨m + 1, by have := HK.out; omega, by have := HK.out; exact congrArg (Value.int .i64) (by omega), by rw [HF.out]; exact own_belowJ HO2.out (below_drewN (Below.refl _ _) _), below_drewN HBR2.out _⟩
            case measure => simp [intOf]; omega
        · have hmn : zs.length - 1 - i = m := by omega
          have hdn : dnTo zs (dn zs) i m = dn zs i := by rw [dn_eq zs hil, hmn]
          rw [hdn] at hatI HO2 hun
          have HN := Lib.hid (And.intro (show ahdAt zs t i (dn zs i) = ahd zs (t + 1) from ahdAt_end HIX.out.2) (show mostTo zs (t + 1) = max (mostTo zs t) (dn zs i) by simp only [mostTo]; rw [show zs.length - 1 - t = i by have := HIX.out.2; omega]))
          obtain ⟨D, hD⟩ : ∃ D, dn zs i = D := ⟨_, rfl⟩
          rw [hD] at hatI hun
          have HD := Lib.hid hD
          obtain ⟨M, hM⟩ : ∃ M, mostTo zs t = M := ⟨_, rfl⟩
          rw [hM] at hmt ⊢
          have HM := Lib.hid hM
          clear hown hbr hc hmn hdn hD hM
          go_wp2_with fail
          go_roundw
          case rel => exact ⟨t + 1, by omega, by have := HIX.out.1; exact congrArg (Value.int .i64) (by omega), by rw [HN.out.2, HM.out, HD.out]; go_num, by rw [← HN.out.1]; exact HO2.out, HBR2.out⟩
          case measure => simp [intOf]
    · have htn : t = zs.length := by omega
      subst htn
      have HFO := Lib.hid (frOk_start HV.out)
      have HRI := Lib.hid (frontL_rise HV.out)
      have HFIRST := Lib.hid (own_base (first_litI W) hbz)
      obtain ⟨M, hM⟩ : ∃ M, mostTo zs zs.length = M := ⟨_, rfl⟩
      rw [hM] at hmt HFO HRI ⊢
      clear hown hbr hM
      go_wp2_with fail
      go_loopw [5, 8, 9, 10] (fun mo v la fr wr => ∃ (q p c f : Nat) (last : Int) (H : Option Addr) (O : List Int), mo = .int .i64 q ∧ v = .slice H p c ∧ la = .int .i64 last ∧ fr = .int .i64 f ∧ p + q = M ∧ O.length = p ∧ FrOk zs q last f ∧ riseL zs = O ++ frontL zs q last f ∧
        wr.ownsRow w.heap.size 3 1 (.slice H p c) p (O.map (Value.int .i64)) ∧ wr.ownsRow w.heap.size 3 1 (.slice (some ⟨w.heap.size, 0, none⟩) zs.length zs.length) zs.length ((ahd zs zs.length).map (Value.int .i64)) ∧ H.map (·.block) ≠ some w.heap.size ∧ Below w.heap.size w wr) (fun mo _ _ _ _ => (intOf mo).toNat)
      case atStart =>
        exact ⟨M, 0, 0, 0, -1, some ⟨W.heap.size, 0, none⟩, [], rfl, rfl, rfl, rfl, by omega, rfl, HFO.out, by rw [← HRI.out]; rfl, HFIRST.out, HO.out.alloc _, by have := (HO.out.lt w.heap.size rfl).2; simp; omega, HBR.out.alloc (by omega) _⟩
      case round =>
        clear HFIRST HFO HO HBR
        obtain ⟨q, p, c, f, last, H, O, rfl, rfl, rfl, rfl, hpq, hOl, hfo, hri, hown, hah, hap, hbr⟩ := hrel
        have HAP := Lib.hid (And.intro hap (And.intro hOl hpq))
        have HRI2 := Lib.hid hri
        have HO := Lib.hid hown
        have HAH := Lib.hid hah
        have HBR := Lib.hid hbr
        have HFO := Lib.hid hfo
        have hf0 := hfo.1
        have hp9 : p ≤ 9 := by omega
        have hq9 : q ≤ 9 := by omega
        obtain ⟨V, hV⟩ : ∃ V : World, V = wr := ⟨_, rfl⟩
        subst hV
        clear hri hown hah hap hfo hOl hpq
        by_cases hq : 0 < q
        · obtain ⟨q', hq'⟩ : ∃ q', q = q' + 1 := ⟨q - 1, by omega⟩
          have hsel := HFO.out
          rw [hq'] at hsel
          have hsel2 := hsel.sel
          have HST := Lib.hid (fun m => selTo_is zs q last f m)
          have HSQ := Lib.hid hq'
          rw [← hq'] at hsel2
          have hfr : frontL zs q last f = zs.getD (selA zs q last f) 0 :: frontL zs q' (zs.getD (selA zs q last f) 0) (selA zs q last f + 1) := by rw [hq']; rfl
          obtain ⟨a, ha⟩ : ∃ a, selA zs q last f = a := ⟨_, rfl⟩
          rw [ha] at hsel2 hfr
          have HSEL := Lib.hid hsel2
          have HFR := Lib.hid hfr
          have hal := hsel2.2.2.1
          clear hsel hsel2 hfr ha hq'
          obtain ⟨b, o, rfl, hb, hc⟩ := (hr.below hbr).open (by simp; omega)
          have HC := Lib.hid hc
          clear hc hbr
          go_wp2_with fail
          go_loopw [11, 12] (fun at' i wr => ∃ m : Nat, f + m ≤ zs.length ∧ i = .int .i64 ((f + m : Nat) : Int) ∧ at' = .int .i64 (selTo zs q last f m) ∧ ∃ z, wr = V.drewN z) (fun _ i _ => zs.length - (intOf i).toNat)
          case atStart => exact ⟨0, by omega, rfl, rfl, 0, rfl⟩
          case round =>
            obtain ⟨m, hm, rfl, rfl, z, hz⟩ := hrel
            have HZ := Lib.hid hz
            have hst := HST.out m
            obtain ⟨j, hj⟩ : ∃ j, f + m = j := ⟨_, rfl⟩
            have HSTEP := Lib.hid (show selTo zs q last f (m + 1) = if last < zs.getD j 0 ∧ dn zs j = q ∧ (selTo zs q last f m < 0 ∨ zs.getD j 0 < zs.getD (selTo zs q last f m).toNat 0) then (j : Int) else selTo zs q last f m by simp only [selTo]; rw [hj])
            rw [hj]
            have HJ := Lib.hid hj
            by_cases hlt2 : j < zs.length
            · have hcJ : wr.cell? ⟨b, o + j, none⟩ = some (.int .i64 (zs.getD j 0)) := by rw [hz]; exact ints_atD HC.out hlt2
              have hcA : ∀ a0, a0 < zs.length → wr.cell? ⟨b, o + a0, none⟩ = some (.int .i64 (zs.getD a0 0)) := fun a0 h => by rw [hz]; exact ints_atD HC.out h
              have hcD : wr.cell? ⟨w.heap.size, j, none⟩ = some (.int .i64 (dn zs j)) := by
                rw [hz]
                have h1 := HAH.out.cellAt j (by omega)
                rw [ahd_get hlt2 (by omega)] at h1
                exact h1
              have hdj := dn_le (zs := zs) hlt2
              obtain ⟨zj, hzj⟩ : ∃ y, zs.getD j 0 = y := ⟨_, rfl⟩
              rw [hzj] at hcJ HSTEP
              obtain ⟨D, hD⟩ : ∃ D, dn zs j = D := ⟨_, rfl⟩
              rw [hD] at hcD HSTEP hdj
              have hjI : (j : Int) < zs.length := by omega
              have hj0 : (0 : Int) ≤ (j : Int) := by omega
              clear hz hzj hD hj
              by_cases h1 : last < zj
              · have hd1 : decide (last < zj) = true := decide_eq_true h1
                by_cases h2 : D = q
                · subst h2
                  rcases hst with ⟨e, -⟩ | ⟨a0, e, -, ha0, -, -, -⟩
                  · have HF := Lib.hid (show selTo zs D last f (m + 1) = (j : Int) by rw [HSTEP.out, if_pos ⟨h1, rfl, .inl (by rw [e]; omega)⟩])
                    rw [e]
                    clear h1 e hcA
                    go_wp2
                    go_quiet (fail)
                    go_simp
                    go_wp2
                    go_roundw
                    case rel => exact ⟨m + 1, by have := HJ.out; omega, by have := HJ.out; exact congrArg (Value.int .i64) (by omega), by rw [HF.out], by rw [HZ.out]; exact ⟨_, World.drewN_drewN ..⟩⟩
                    case measure => simp [intOf]; omega
                  · have hca := hcA a0 (by omega)
                    obtain ⟨za, hza⟩ : ∃ y, zs.getD a0 0 = y := ⟨_, rfl⟩
                    rw [hza] at hca
                    rw [e] at HSTEP ⊢
                    have haI : (a0 : Int) < zs.length := by omega
                    have ha00 : (0 : Int) ≤ (a0 : Int) := by omega
                    have hd3 : decide ((a0 : Int) < 0) = false := decide_eq_false (by omega)
                    have hge : ¬ (a0 : Int) < 0 := by omega
                    have hta : ((a0 : Int)).toNat = a0 := rfl
                    by_cases h4 : zj < za
                    · have hd4 : decide (zj < za) = true := decide_eq_true h4
                      have HF := Lib.hid (show selTo zs D last f (m + 1) = (j : Int) by rw [HSTEP.out, if_pos ⟨h1, rfl, .inr (by rw [hta, hza]; exact h4)⟩])
                      clear h1 e hcA hza h4 hge hta
                      go_wp2
                      go_quiet (fail)
                      go_simp
                      go_wp2
                      go_roundw
                      case rel => exact ⟨m + 1, by have := HJ.out; omega, by have := HJ.out; exact congrArg (Value.int .i64) (by omega), by rw [HF.out], by rw [HZ.out]; exact ⟨_, World.drewN_drewN ..⟩⟩
                      case measure => simp [intOf]; omega
                    · have hd4 : decide (zj < za) = false := decide_eq_false h4
                      have HF := Lib.hid (show selTo zs D last f (m + 1) = (a0 : Int) by rw [HSTEP.out, if_neg (by rintro ⟨_, _, h | h⟩; exact hge h; rw [hta, hza] at h; exact h4 h)])
                      clear h1 e hcA hza h4 hge hta
                      go_wp2
                      go_quiet (fail)
                      go_simp
                      go_wp2
                      go_roundw
                      case rel => exact ⟨m + 1, by have := HJ.out; omega, by have := HJ.out; exact congrArg (Value.int .i64) (by omega), by rw [HF.out], by rw [HZ.out]; exact ⟨_, World.drewN_drewN ..⟩⟩
                      case measure => simp [intOf]; omega
                · have hd2 : ((D : Int) == (q : Int)) = false := by simp; omega
                  have HF := Lib.hid (show selTo zs q last f (m + 1) = selTo zs q last f m by rw [HSTEP.out, if_neg (by rintro ⟨_, h, _⟩; exact h2 h)])
                  obtain ⟨s, hs⟩ : ∃ s, selTo zs q last f m = s := ⟨_, rfl⟩
                  rw [hs] at HF ⊢
                  clear h1 h2 hcA hst hs
                  go_wp2
                  go_quiet (fail)
                  go_simp
                  go_wp2
                  go_roundw
                  case rel => exact ⟨m + 1, by have := HJ.out; omega, by have := HJ.out; exact congrArg (Value.int .i64) (by omega), by rw [HF.out], by rw [HZ.out]; exact ⟨_, World.drewN_drewN ..⟩⟩
                  case measure => simp [intOf]; omega
              · have hd1 : decide (last < zj) = false := decide_eq_false h1
                have HF := Lib.hid (show selTo zs q last f (m + 1) = selTo zs q last f m by rw [HSTEP.out, if_neg (by rintro ⟨h, _, _⟩; exact h1 h)])
                obtain ⟨s, hs⟩ : ∃ s, selTo zs q last f m = s := ⟨_, rfl⟩
                rw [hs] at HF ⊢
                clear h1 hcA hst hs
                go_wp2
                go_quiet (fail)
                go_simp
                go_wp2
                go_roundw
                case rel => exact ⟨m + 1, by have := HJ.out; omega, by have := HJ.out; exact congrArg (Value.int .i64) (by omega), by rw [HF.out], by rw [HZ.out]; exact ⟨_, World.drewN_drewN ..⟩⟩
                case measure => simp [intOf]; omega
            · have hmn : m = zs.length - f := by omega
              have hsa : selTo zs q last f m = (a : Int) := by rw [hmn]; exact HSEL.out.1
              rw [hsa]
              have hcA : wr.cell? ⟨b, o + a, none⟩ = some (.int .i64 (zs.getD a 0)) := by rw [hz]; exact ints_atD HC.out hal
              obtain ⟨za, hza⟩ : ∃ y, zs.getD a 0 = y := ⟨_, rfl⟩
              rw [hza] at hcA
              have HRN := Lib.hid (show riseL zs = (O ++ [za]) ++ frontL zs (q - 1) za (a + 1) by
                rw [HRI2.out, HFR.out, hza, show q' = q - 1 by have := HSQ.out; omega]; simp)
              have HFN := Lib.hid (show FrOk zs (q - 1) za (a + 1) by
                have h1 := HSEL.out.2.2.2.2.2.2
                rw [hza] at h1
                rwa [show q' = q - 1 by have := HSQ.out; omega] at h1)
              have hownO : wr.ownsRow w.heap.size 3 1 (.slice H p c) p (O.map (Value.int .i64)) := by rw [hz]; exact HO.out
              have hbw : Below w.heap.size w wr := by rw [hz]; exact below_drewN HBR.out z
              have HAH2 := Lib.hid (show wr.ownsRow w.heap.size 3 1 (.slice (some ⟨w.heap.size, 0, none⟩) zs.length zs.length) zs.length ((ahd zs zs.length).map (Value.int .i64)) by rw [hz]; exact HAH.out)
              have HB2 := Lib.hid hbw
              have hbz2 := hbw.size
              have haI : (a : Int) < zs.length := by omega
              have ha0 : (0 : Int) ≤ (a : Int) := by omega
              have hjn : ¬ j < zs.length := hlt2
              clear hz hza hmn hsa hst hbw hj
              go_wp2_with (at_builtin; refine wpList_push_at rfl (.tmp 100) (.tmp 105) 22 rfl i0 (.int .i64 0) 8 Try.underlying22 hi0 hz0 hz1 hz2 rfl (by decide) _ _ rfl hownO [.int .i64 za] rfl rfl (by simp [Value.oneCell']) (by omega) (by omega) hbz2 ?_)
              intro H' c' w5 hown5 hg5 hat5
              have hcA5 : w5.cell? ⟨b, o + a, none⟩ = some (.int .i64 za) := (World.cell?_of_block (a := ⟨b, o + a, none⟩) (hg5.block b (by omega) (fun e => by have := (hownO.lt b e.symm).1; omega))).trans hcA
              have hat6 := at_form hat5
              have hap5 : H'.map (·.block) ≠ some w.heap.size := by
                rcases hat6 with e | e
                · rw [e]; exact HAP.out.1
                · rw [e]; simp; have := (HAH2.out.lt w.heap.size rfl).2; omega
              have hah5 := HAH2.out.kept hg5 (.inr (fun e => HAP.out.1 ((slice_block H p c).symm.trans e.symm)))
              have HW := Lib.hid (And.intro hown5 (And.intro hah5 (And.intro hap5 (HB2.out.grown hg5 hbz2 (fun i hi => (hownO.lt i hi).1)))))
              clear hown5 hah5 hap5 hg5 hat5 hat6 hownO hcA
              go_wp2_with fail
              go_roundw
              case rel => exact ⟨q - 1, p + 1, c', a + 1, za, H', O ++ [za], by exact congrArg (Value.int .i64) (by omega), rfl, rfl, by go_num, by have := HAP.out.2.2; omega, by rw [List.length_append, HAP.out.2.1]; rfl, HFN.out, HRN.out, by rw [List.map_append]; exact HW.out.1, HW.out.2.1, HW.out.2.2.1, HW.out.2.2.2⟩
              case measure => simp [intOf]; omega
        · have hq0 : q = 0 := by omega
          have HF := Lib.hid (iRes_row (V := riseL zs) (by rw [HRI2.out, hq0]; simp only [frontL, List.append_nil]; exact HO.out) (by rw [HRI2.out, hq0]; simp only [frontL, List.append_nil]; exact HAP.out.2.1.symm) hbr)
          clear hbr hq0
          go_wp2
          go_ret
          exact HF.out

set_option maxRecDepth 100000 in
theorem specRisingRowOf_any (A : Option Addr) (c0 : Nat) (zs : List Int) (w : World) (hr : Ints w w.heap.size A zs) (hl : zs.length ≤ 9000000000000000000) :
    Calls Try.prog 23 #[.slice A zs.length c0] w (iRes w (rowV zs)) := by
  have hva := specValidRow9_any A c0 zs w hr hl
  by_cases hv : rowB 9 zs = true
  · rw [hv] at hva
    have HVA := Lib.hid hva
    have HRI := Lib.hid (specRisingRow_any A c0 zs w hr hv)
    rw [rowV_yes hv]
    clear hva hv
    go_enter Try.func23, Try.ntmps23
    go_wp2_with (go_at_call 41; refine HVA.out.mono ?_; rintro e w' ⟨rfl, rfl⟩)
    refine HRI.out.mono ?_
    intro e w1 hres
    have HF := Lib.hid hres
    obtain ⟨A1, c1, rfl, -, -, -⟩ := hres
    go_wp2_with fail
    go_ret
    exact HF.out
  · have hv' : rowB 9 zs = false := by simpa using hv
    rw [hv'] at hva
    have HVA := Lib.hid hva
    rw [rowV_no hv']
    clear hva hv hv'
    go_enter Try.func23, Try.ntmps23
    go_wp2_with (go_at_call 41; refine HVA.out.mono ?_; rintro e w' ⟨rfl, rfl⟩)
    go_ret
    exact iRes.none rfl (Below.refl _ _)
end Go.Proofs.Ythfmmdigecjfnaa
