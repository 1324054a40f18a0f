/- Letters sent on: spec.ForwardOf. No condition. -/
import Derived.Test.YtldbefmiabgkhaaT9
namespace Go.Proofs.Ytldbefmiabgkhaa
open Go.RowKit

theorem Fwd.last {zs : List Int} {i : Int} {L x : Nat} (h : Fwd zs i L x) {d : Nat} (hd : d + 1 ≤ L) : orb zs i (d + 1) = orb zs i d ↔ d + 1 = L ∧ x = d := by
  have hx := h.L1
  constructor
  · intro e
    by_cases e2 : d + 1 = L
    · refine ⟨e2, ?_⟩
      have e3 := h.eq
      rw [← e2, e] at e3
      exact (h.inj (by omega) hx e3).symm
    · exact absurd e.symm (h.ne d (d + 1) (by omega) (by omega))
  · rintro ⟨rfl, rfl⟩; exact h.eq

set_option maxRecDepth 100000 in
set_option maxHeartbeats 8000000 in
theorem specForwardOf_any (A : Option Addr) (c : Nat) (zs : List Int) (i a b : Int) (w : World) (hr : Ints w w.heap.size A zs) (hl : zs.length ≤ 1000000000) (hf : FwdR zs i a b) :
    Calls Try.prog 17 #[.slice A zs.length c, .int .i64 i] w fun e w' => e = .returned (.tuple #[.int .i64 a, .int .i64 b]) ∧ Below w.heap.size w w' := by
  obtain ⟨i0, hi0, hz0, hz1, hz2⟩ := info_parts Try.infoD
  have HFR := Lib.hid hf
  have HR := Lib.hid hr
  have hwn : IntKind.i64.wrap ((zs.length : Int) - 1) = (zs.length : Int) - 1 := IntWalk.i64_in _ (by omega)
  clear hf
  go_enter Try.func17, Try.ntmps17
  go_wp2_with fail
  go_loop [6] (fun i => ∃ k : Nat, k ≤ zs.length ∧ i = .int .i64 k ∧ Hid ((zs.take k).all (okF zs.length) = true)) (fun i => zs.length - (intOf i).toNat)
  case atStart => exact ⟨0, by omega, rfl, Lib.hid (by simp)⟩
  case round =>
    obtain ⟨k, hk, rfl, HA⟩ := hrel
    by_cases hlt : k < zs.length
    · obtain ⟨b0, o, rfl, hb, hc⟩ := hr.open (by simp; omega)
      have hcell := ints_at hc hlt
      have HT := Lib.hid (all_take (p := okF zs.length) hlt)
      have HN := Lib.hid (fwB_cell (i := i) hlt)
      have hkI : (k : Int) < zs.length := by omega
      obtain ⟨z, hz⟩ : ∃ z, zs[k] = z := ⟨_, rfl⟩
      rw [hz] at hcell HT HN
      clear hc hz
      by_cases hin : inR z 0 ((zs.length : Int) - 1) = true
      · have HI := Lib.hid (inRange_is hin)
        have HAK := Lib.hid (show (zs.take (k + 1)).all (okF zs.length) = true by rw [HT.out, HA.out, show okF zs.length z = true from hin]; rfl)
        clear hin
        go_wp2_with (go_at_call 38; (with_reducible refine (HI.out _).mono ?_); rintro e w' ⟨rfl, rfl⟩)
        go_round
        case rel => exact ⟨k + 1, by omega, by go_num, HAK⟩
        case measure => simp [intOf]; omega
      · have hin' : inR z 0 ((zs.length : Int) - 1) = false := by simpa using hin
        have HI := Lib.hid (inRange_is hin')
        have hbad := HN.out hin'
        have hab : a = -1 ∧ b = -1 := by
          rcases HFR.out with h | ⟨h, _⟩
          · exact h.2
          · rw [hbad] at h; cases h
        obtain ⟨rfl, rfl⟩ := hab
        clear hin hin' hbad
        go_wp2_with (go_at_call 38; (with_reducible refine (HI.out _).mono ?_); rintro e w' ⟨rfl, rfl⟩)
        go_ret2
        exact ⟨rfl, Below.refl _ _⟩
    · have hk' : k = zs.length := by omega
      subst hk'
      have hall : zs.all (okF zs.length) = true := by have := HA.out; rwa [List.take_length] at this
      rcases HFR.out with ⟨hv, rfl, rfl⟩ | ⟨hv, L, x, hfw, rfl, rfl⟩
      · by_cases h9 : zs.length ≤ 9
        · have t9 : decide ((9 : Int) < (zs.length : Int)) = false := decide_eq_false (by omega)
          have hio : inR i 0 ((zs.length : Int) - 1) = false := by
            rw [fwB, hall, decide_eq_true h9] at hv
            simpa [okF] using hv
          have HI := Lib.hid (inRange_is hio)
          clear hv h9 hio hall HFR hlt
          go_wp2_with (go_at_call 38; (with_reducible refine (HI.out _).mono ?_); rintro e w' ⟨rfl, rfl⟩)
          go_ret2
          exact ⟨rfl, Below.refl _ _⟩
        · have t9 : decide ((9 : Int) < (zs.length : Int)) = true := decide_eq_true (by omega)
          clear hv h9 hall HFR hlt
          go_wp2_with fail
          go_ret2
          exact ⟨rfl, Below.refl _ _⟩
      · have HFW := Lib.hid hfw
        have hLn := hfw.le
        have hxL := hfw.L1
        have h9 := hfw.n9
        have t9 : decide ((9 : Int) < (zs.length : Int)) = false := decide_eq_false (by omega)
        have HI := Lib.hid (inRange_is (show inR i 0 ((zs.length : Int) - 1) = true from inR_iff.2 (by have := hfw.i0; omega)))
        have HST := Lib.hid (one_rowD w i)
        obtain ⟨bz, oz, rfl, hbz0, hc⟩ := hr.open (by simp; omega)
        have HCELL := Lib.hid (fun j (hj : j < zs.length) => ints_at hc hj)
        have HL1 := Lib.hid (show orbL zs i 1 = [i] by simp [orbL, tab, orb])
        clear hv hall HFR hlt hfw hc HA
        go_wp2_with (go_at_call 38; (with_reducible refine (HI.out _).mono ?_); rintro e w' ⟨rfl, rfl⟩)
        clear HI t9 hwn
        go_loopw [7] (fun v wr => ∃ (d q c' : Nat) (H : Option Addr) (V : List Int), d + 1 ≤ L ∧ v = .slice H q c' ∧ q = d + 1 ∧ Hid (V = orbL zs i (d + 1)) ∧ wr.ownsRow w.heap.size 3 1 (.slice H q c') q (V.map (Value.int .i64)) ∧ Below w.heap.size w wr) (fun v _ => L - (match v with | .slice _ n _ => n | _ => 0))
        case atStart => exact ⟨0, 1, _, _, [i], by omega, rfl, rfl, Lib.hid HL1.out.symm, HST.out, (Below.refl _ _).alloc (Nat.le_refl _) _⟩
        case round =>
          clear HST HL1
          obtain ⟨d, q, cH, H, V, hk, rfl, hq, HV, hown, hbr⟩ := hrel
          have HO := Lib.hid hown
          have HBR := Lib.hid hbr
          have hbz := hbr.size
          have HQ := Lib.hid hq
          have hVl : V.length = d + 1 := by rw [HV.out, orbL_len]
          have hins := HFW.out.inn d
          have hint := HFW.out.inn (d + 1)
          have hown2 : wr.ownsRow w.heap.size 3 1 (.slice H q cH) q (V.map (Value.int .i64)) := hown
          obtain ⟨g, rfl, hg1, hg2⟩ := own_some hown2 (by omega)
          have hVd : V.getD d 0 = orb zs i d := by rw [HV.out, orbL_get (by omega)]
          have hlc := hown.cellAt d (by omega)
          have e0 : (V.map (Value.int .i64))[d]? = some (.int .i64 (orb zs i d)) := by
            rw [List.getElem?_map, List.getElem?_eq_getElem (by omega), ← getD_get (by omega), hVd]; rfl
          rw [e0] at hlc
          obtain ⟨l, hle⟩ : ∃ l : Nat, orb zs i d = l := ⟨(orb zs i d).toNat, by omega⟩
          have hln : l < zs.length := by omega
          rw [hle] at hlc
          have hcell := (HBR.out.cell (p := ⟨bz, oz + l, none⟩) hbz0).trans (HCELL.out l hln)
          have hto : zs[l] = orb zs i (d + 1) := by
            show zs[l] = zs.getD (orb zs i d).toNat 0
            rw [hle, show ((l : Int)).toNat = l from rfl, getD_get hln]
          rw [hto] at hcell
          have HLAST := Lib.hid (HFW.out.last (d := d) hk)
          rw [hle] at HLAST
          obtain ⟨t, hte⟩ : ∃ t, orb zs i (d + 1) = t := ⟨_, rfl⟩
          have HTE := Lib.hid hte
          rw [hte] at hcell hint HLAST
          have hqd : IntKind.i64.wrap ((q : Int) - 1) = (d : Int) := by rw [HQ.out, show ((d + 1 : Nat) : Int) - 1 = (d : Int) by omega]; exact IntWalk.i64_in _ (by omega)
          have hdq : (d : Int) < (q : Int) := by omega
          have hlI : (l : Int) < (zs.length : Int) := by omega
          have HQD := Lib.hid (show (q : Int) - 1 = (d : Int) by omega)
          have HHR := Lib.hid (own_of_rowS (by decide) hown).row
          have hq9 : q ≤ 9 := by omega
          clear hto hte e0 hown2 hbr
          by_cases htl : t = l
          · have hx := HLAST.out.1 htl
            have t1 : (t == (l : Int)) = true := by simp [htl]
            have HF := Lib.hid (show fwC L x = 0 ∧ (x : Int) = (d : Int) by rw [fwC, if_pos (by omega)]; omega)
            clear htl hown hq hle hVd
            go_wp2_with fail
            go_ret2
            exact ⟨by rw [HF.out.1, HF.out.2]; rfl, HBR.out⟩
          · have t1 : (t == (l : Int)) = false := by simpa using htl
            by_cases hdL : d + 1 < L
            · have hno : t ∉ V := by rw [HV.out, ← HTE.out]; exact HFW.out.fresh hdL
              have hP := place_no _ cH V t wr HHR.out (by omega) hno
              rw [hVl, ← hq] at hP
              have HP := Lib.hid hP
              have HLS := Lib.hid (orbL_succ zs i (d + 1))
              clear htl hown hq hle hVd hno hP hVl
              go_wp2_with (first | (go_at_call 39; (with_reducible refine HP.out.mono ?_); rintro e w' ⟨rfl, rfl⟩) | (at_builtin; refine wpList_push rfl (.tmp 65) (.tmp 67) 27 rfl i0 (.int .i64 0) 8 Try.underlying27 hi0 hz0 hz1 hz2 rfl (by decide) _ _ rfl HO.out [.int .i64 t] rfl rfl (by simp [Value.oneCell']) (by omega) (by omega) hbz ?_))
              intro H' c' w6 hown6 hg6
              have HW := Lib.hid (And.intro hown6 (HBR.out.grown hg6 hbz (fun i hi => (HO.out.lt _ hi).1)))
              clear hown6 hg6
              go_wp2
              go_roundw
              case rel => exact ⟨d + 1, q + 1, c', H', V ++ [t], by omega, rfl, by rw [HQ.out], Lib.hid (by rw [HLS.out, HV.out, HTE.out]), by rw [List.map_append]; exact HW.out.1, HW.out.2⟩
              case measure => have := HQ.out; simp only []; omega
            · have hLd : d + 1 = L := by omega
              have hxd : x ≠ d := fun e => htl (HLAST.out.2 ⟨hLd, e⟩)
              have hP := place_at _ cH V t wr HHR.out (by omega) x (by omega) (by rw [HV.out, orbL_get (by omega), ← HTE.out, hLd, HFW.out.eq]) (by
                intro j hj; rw [HV.out, ← HTE.out, hLd]; exact HFW.out.hit j hj)
              rw [hVl, ← hq] at hP
              have HP := Lib.hid hP
              have HF := Lib.hid (show (q : Int) - x = fwC L x by rw [fwC, if_neg (by omega), hq, hLd])
              clear htl hown hq hle hVd hP hVl hLd hdL
              go_wp2_with (go_at_call 39; (with_reducible refine HP.out.mono ?_); rintro e w' ⟨rfl, rfl⟩)
              go_ret2
              exact ⟨by rw [← HF.out]; rfl, HBR.out⟩
end Go.Proofs.Ytldbefmiabgkhaa
