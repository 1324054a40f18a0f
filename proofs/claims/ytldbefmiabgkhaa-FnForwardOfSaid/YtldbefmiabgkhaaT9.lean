/- Letters sent on: ForwardOf on both sides. No condition. -/
import Derived.Test.YtldbefmiabgkhaaT7
import Derived.Test.YtldbefmiabgkhaaT3
import Derived.Test.YtldbefmiabgkhaaT5
import Derived.Test.YtldbefmiabgkhaaShelf
namespace Go.Proofs.Ytldbefmiabgkhaa
open Go.RowKit

theorem containsI_any (A : Option Addr) (c : Nat) (zs : List Int) (x : Int) (B : Nat) (w : World) (hr : Ints w B A zs) (hl : zs.length ≤ 1000000000) :
    Calls Try.prog 40 #[.slice A zs.length c, .int .i64 x] w fun e w' => e = .returned (.bool (decide (x ∈ zs))) ∧ w = w' := by
  by_cases h0 : zs = []
  · subst h0
    refine (Try.slices_Contains_int_empty A c x w).mono ?_
    rintro e w' ⟨rfl, rfl⟩
    exact ⟨by simp, rfl⟩
  · obtain ⟨b, o, rfl, hb, hc⟩ := hr.open (by simp; exact List.length_pos_iff.2 h0)
    refine (Try.slices_Contains_int b o zs.length c zs x w (by omega) (by omega) (fun j hj => by rw [getD_get hj]; exact ints_at hc hj)).mono ?_
    rintro e w' ⟨rfl, rfl⟩
    refine ⟨ret_bool ?_, rfl⟩
    rw [List.take_length, List.contains_eq_mem]
theorem indexI_at (A : Option Addr) (c : Nat) (zs : List Int) (x : Int) (B : Nat) (w : World) (hr : Ints w B A zs) (hl : zs.length ≤ 1000000000) {k : Nat} (hk : k < zs.length) (hx : zs.getD k 0 = x) (hn : ∀ j, j < k → zs.getD j 0 ≠ x) :
    Calls Try.prog 41 #[.slice A zs.length c, .int .i64 x] w fun e w' => e = .returned (.int .i64 (k : Int)) ∧ w = w' := by
  obtain ⟨b, o, rfl, hb, hc⟩ := hr.open (by simp; omega)
  refine (Try.slices_Index_int b o zs.length c zs x w (by omega) (by omega) (fun j hj => by rw [getD_get hj]; exact ints_at hc hj)).mono ?_
  rintro e w' ⟨rfl, rfl⟩
  refine ⟨ret_int ?_, rfl⟩
  rw [List.take_length]
  unfold Lib.idxOf
  rw [Lib.idxFrom_hit x zs k 0 hk hx hn, Nat.zero_add]

set_option maxRecDepth 100000 in
set_option maxHeartbeats 1000000 in
theorem place_at (A : Option Addr) (c : Nat) (zs : List Int) (x : Int) (w : World) (hr : Ints w w.heap.size A zs) (hl : zs.length ≤ 1000000000) (K : Nat) (hK : K < zs.length) (hx : zs.getD K 0 = x) (hn : ∀ j, j < K → zs.getD j 0 ≠ x) :
    Calls Try.prog 39 #[.slice A zs.length c, .int .i64 x] w fun e w' => e = .returned (.int .i64 (K : Int)) ∧ w = w' := by
  have HX := Lib.hid hx
  have HN := Lib.hid hn
  have HK := Lib.hid hK
  clear hx hn hK
  go_enter Try.func39, Try.ntmps39
  go_wp2
  go_loop [5] (fun i => ∃ k : Nat, k ≤ K ∧ i = .int .i64 k) (fun i => zs.length - (intOf i).toNat)
  case atStart => exact ⟨0, by omega, rfl⟩
  case round =>
    obtain ⟨k, hk, rfl⟩ := hrel
    have hlt : k < zs.length := by have := HK.out; omega
    obtain ⟨b, o, rfl, hb, hc⟩ := hr.open (by simp; omega)
    have hcell := ints_at hc hlt
    have HZ := Lib.hid (getD_get hlt)
    have hkI : (k : Int) < zs.length := by omega
    obtain ⟨z, hz⟩ : ∃ z, zs[k] = z := ⟨_, rfl⟩
    rw [hz] at hcell HZ
    clear hc hz
    by_cases hkk : k = K
    · have ht : (z == x) = true := by rw [← HZ.out, hkk, HX.out]; simp
      have HF := Lib.hid (show (k : Int) = (K : Int) by rw [hkk])
      clear hkk
      go_wp2
      go_ret
      exact ⟨ret_int HF.out, rfl⟩
    · have ht : (z == x) = false := by have := HN.out k (by omega); rw [HZ.out] at this; simpa using this
      go_wp2
      go_round
      case rel => exact ⟨k + 1, by omega, by go_num⟩
      case measure => simp [intOf]; omega
set_option maxRecDepth 100000 in
set_option maxHeartbeats 1000000 in
theorem place_no (A : Option Addr) (c : Nat) (zs : List Int) (x : Int) (w : World) (hr : Ints w w.heap.size A zs) (hl : zs.length ≤ 1000000000) (hx : x ∉ zs) :
    Calls Try.prog 39 #[.slice A zs.length c, .int .i64 x] w fun e w' => e = .returned (.int .i64 (-1)) ∧ w = w' := by
  have HX := Lib.hid hx
  clear hx
  go_enter Try.func39, Try.ntmps39
  go_wp2
  go_loop [5] (fun i => ∃ k : Nat, k ≤ zs.length ∧ i = .int .i64 k) (fun i => zs.length - (intOf i).toNat)
  case atStart => exact ⟨0, by omega, rfl⟩
  case round =>
    obtain ⟨k, hk, rfl⟩ := hrel
    by_cases hlt : k < zs.length
    · obtain ⟨b, o, rfl, hb, hc⟩ := hr.open (by simp; omega)
      have hcell := ints_at hc hlt
      have HM := Lib.hid (List.getElem_mem hlt)
      have hkI : (k : Int) < zs.length := by omega
      obtain ⟨z, hz⟩ : ∃ z, zs[k] = z := ⟨_, rfl⟩
      rw [hz] at hcell HM
      have ht : (z == x) = false := by
        rw [beq_eq_false_iff_ne]; exact fun e => HX.out (by rw [← e]; exact HM.out)
      clear hc hz
      go_wp2
      go_round
      case rel => exact ⟨k + 1, by omega, by go_num⟩
      case measure => simp [intOf]; omega
    · go_wp2
      go_ret
      exact ⟨rfl, rfl⟩

/-- What is told of a letter that is sent on. -/
def FwdR (zs : List Int) (i a b : Int) : Prop := (fwB zs i = false ∧ a = -1 ∧ b = -1) ∨ (fwB zs i = true ∧ ∃ L x, Fwd zs i L x ∧ a = (x : Int) ∧ b = fwC L x)
theorem exists_fwdR (zs : List Int) (i : Int) : ∃ a b, FwdR zs i a b := by
  by_cases h : fwB zs i = true
  · obtain ⟨L, x, hf⟩ := fw_exists h
    exact ⟨x, fwC L x, .inr ⟨h, L, x, hf, rfl, rfl⟩⟩
  · exact ⟨-1, -1, .inl ⟨by simpa using h, rfl, rfl⟩⟩
theorem fwB_bel (zs : List Int) (i : Int) : fwB zs i = (belB zs.length zs && (decide (zs.length ≤ 9) && okF zs.length i)) := rfl
theorem fwB_long {zs : List Int} {i : Int} (h : ¬ zs.length ≤ 9) : fwB zs i = false := by rw [fwB, decide_eq_false h, Bool.false_and, Bool.and_false]
theorem fwB_cell {zs : List Int} {i : Int} {k : Nat} (hk : k < zs.length) (h : inR zs[k] 0 ((zs.length : Int) - 1) = false) : fwB zs i = false := by
  rw [fwB, all_no hk (p := okF zs.length) h, Bool.false_and]
theorem orbL_succ (zs : List Int) (i : Int) (k : Nat) : orbL zs i (k + 1) = orbL zs i k ++ [orb zs i k] := tab_succ _ _
theorem orbL_len (zs : List Int) (i : Int) (k : Nat) : (orbL zs i k).length = k := tab_length _ _
theorem orbL_get {zs : List Int} {i : Int} {k j : Nat} (h : j < k) : (orbL zs i k).getD j 0 = orb zs i j := by
  rw [getD_get (by rw [orbL_len]; exact h)]; exact tab_get h
theorem Fwd.hit {zs : List Int} {i : Int} {L x : Nat} (h : Fwd zs i L x) : ∀ j, j < x → (orbL zs i L).getD j 0 ≠ orb zs i L := fun j hj e => by
  have hl := h.L1
  rw [orbL_get (by omega), h.eq] at e
  have := h.inj (by omega) (by omega) e; omega

set_option maxRecDepth 100000 in
set_option maxHeartbeats 8000000 in
theorem impForwardOf_any (A : Option Addr) (c : Nat) (zs : List Int) (i a b : Int) (w : World) (hr : Ints w w.heap.size A zs) (hl : zs.length ≤ 1000000000) (hf : FwdR zs i a b) :
    Calls Try.prog 19 #[.slice A zs.length c, .int .i64 i] w fun e w' => e = .returned (.tuple #[.int .i64 a, .int .i64 b]) ∧ Below w.heap.size w w' := by
  obtain ⟨i0, hi0, hz0, hz1, hz2⟩ := info_parts Try.infoD
  have HB := Lib.hid (areBelow_any A c zs zs.length w hr hl)
  rcases hf with ⟨hv, rfl, rfl⟩ | ⟨hv, L, x, hf, rfl, rfl⟩
  · by_cases h9 : zs.length ≤ 9
    · have t9 : decide ((9 : Int) < (zs.length : Int)) = false := decide_eq_false (by omega)
      by_cases hb : belB zs.length zs = true
      · rw [hb] at HB
        by_cases h0 : i < 0
        · have t0 : decide (i < 0) = true := decide_eq_true h0
          clear hv h9 hb h0
          go_enter Try.func19, Try.ntmps19
          go_wp2_with (go_at_call 37; (with_reducible refine HB.out.mono ?_); rintro e w' ⟨rfl, rfl⟩)
          go_ret2
          exact ⟨rfl, Below.refl _ _⟩
        · have t0 : decide (i < 0) = false := decide_eq_false h0
          have hge : (zs.length : Int) ≤ i := by
            rw [fwB_bel, hb, decide_eq_true h9] at hv
            simp [okF, inR] at hv
            omega
          have t1 : decide ((zs.length : Int) ≤ i) = true := decide_eq_true hge
          clear hv h9 hb h0 hge
          go_enter Try.func19, Try.ntmps19
          go_wp2_with (go_at_call 37; (with_reducible refine HB.out.mono ?_); rintro e w' ⟨rfl, rfl⟩)
          go_ret2
          exact ⟨rfl, Below.refl _ _⟩
      · have hb' : belB zs.length zs = false := by simpa using hb
        rw [hb'] at HB
        clear hv h9 hb hb'
        go_enter Try.func19, Try.ntmps19
        go_wp2_with (go_at_call 37; (with_reducible refine HB.out.mono ?_); rintro e w' ⟨rfl, rfl⟩)
        go_ret2
        exact ⟨rfl, Below.refl _ _⟩
    · have t9 : decide ((9 : Int) < (zs.length : Int)) = true := decide_eq_true (by omega)
      clear hv h9 HB
      go_enter Try.func19, Try.ntmps19
      go_wp2
      go_ret2
      exact ⟨rfl, Below.refl _ _⟩
  · have hb : belB zs.length zs = true := by
      rw [fwB_bel, Bool.and_eq_true] at hv; exact hv.1
    rw [hb] at HB
    have HFW := Lib.hid hf
    have hLn := hf.le
    have hxL := hf.L1
    have h9 := hf.n9
    have hii0 := hf.i0.1
    have hii1 := hf.i0.2
    have t9 : decide ((9 : Int) < (zs.length : Int)) = false := decide_eq_false (by omega)
    have t0 : decide (i < 0) = false := decide_eq_false (by omega)
    have t1 : decide ((zs.length : Int) ≤ i) = false := decide_eq_false (by omega)
    obtain ⟨m, rfl⟩ : ∃ m : Nat, i = m := ⟨i.toNat, by omega⟩
    have hmn : m < zs.length := by omega
    have t1n : decide (zs.length ≤ m) = false := decide_eq_false (by omega)
    obtain ⟨bz, oz, rfl, hbz0, hc⟩ := hr.open (by simp; omega)
    have HCELL := Lib.hid (fun j (hj : j < zs.length) => ints_at hc hj)
    have HST := Lib.hid (one_rowD w (m : Int))
    have HO1 := Lib.hid (show orb zs m 1 = zs[m] by show zs.getD (m : Int).toNat 0 = zs[m]; rw [show ((m : Int)).toNat = m from rfl, getD_get hmn])
    have hr1 := HCELL.out m hmn
    have hin1 := hf.inn 1
    have HL1 := Lib.hid (show orbL zs m 1 = [(m : Int)] by simp [orbL, tab, orb])
    obtain ⟨r, hre⟩ : ∃ r, zs[m] = r := ⟨_, rfl⟩
    rw [hre] at hr1 HO1
    rw [HO1.out] at hin1
    have HR := Lib.hid hr
    clear hv hb hf hc hre hr
    go_enter Try.func19, Try.ntmps19
    go_wp2_with (go_at_call 37; (with_reducible refine HB.out.mono ?_); rintro e w' ⟨rfl, rfl⟩)
    clear HB t9 t0 t1 t1n hr1
    go_loopw [6, 7] (fun v t wr => ∃ (k q c' : Nat) (H : Option Addr) (t' : Int) (V : List Int), 1 ≤ k ∧ k ≤ L ∧ v = .slice H q c' ∧ q = k ∧ t = .int .i64 t' ∧ Hid (V = orbL zs m k ∧ t' = orb zs m k) ∧ wr.ownsRow w.heap.size 3 1 (.slice H q c') q (V.map (Value.int .i64)) ∧ Below w.heap.size w wr) (fun v _ _ => L - (match v with | .slice _ n _ => n | _ => 0))
    case atStart => exact ⟨1, 1, _, _, r, [(m : Int)], by omega, by omega, rfl, rfl, rfl, Lib.hid ⟨HL1.out.symm, HO1.out.symm⟩, HST.out, (Below.refl _ _).alloc (Nat.le_refl _) _⟩
    case round =>
      clear HST HO1 HL1 hin1
      obtain ⟨k, q, cH, H, t, V, hk1, hk, rfl, hq, rfl, HV, hown, hbr⟩ := hrel
      have HO := Lib.hid hown
      have HBR := Lib.hid hbr
      have hbz := hbr.size
      have HQ := Lib.hid hq
      have hVl : V.length = k := by rw [HV.out.1, orbL_len]
      have hins := HFW.out.inn k
      rw [← HV.out.2] at hins
      obtain ⟨tn, rfl⟩ : ∃ tn : Nat, t = tn := ⟨t.toNat, by omega⟩
      have htn : tn < zs.length := by omega
      have hcell0 := (HBR.out.cell (p := ⟨bz, oz + tn, none⟩) hbz0).trans (HCELL.out tn htn)
      have HNX := Lib.hid (show orb zs m (k + 1) = zs[tn] by show zs.getD (orb zs m k).toNat 0 = zs[tn]; rw [← HV.out.2, show ((tn : Int)).toNat = tn from rfl, getD_get htn])
      obtain ⟨y, hy⟩ : ∃ y, zs[tn] = y := ⟨_, rfl⟩
      rw [hy] at hcell0 HNX
      have hqI : q ≤ 9 := by omega
      have hC := containsI_any H cH V (tn : Int) _ wr (own_of_rowS (by decide) hown).row (by omega)
      rw [hVl, ← hq] at hC
      clear hy
      by_cases hkL : k < L
      · have hno : (tn : Int) ∉ V := by rw [HV.out.1, HV.out.2]; exact HFW.out.fresh hkL
        rw [decide_eq_false hno] at hC
        have HC := Lib.hid hC
        have HLS := Lib.hid (orbL_succ zs m k)
        clear hno hC hown hbr hq hVl
        go_wp2_with (first | (go_at_call 40; (with_reducible refine HC.out.mono ?_); rintro e w' ⟨rfl, rfl⟩) | (at_builtin; refine wpList_push rfl (.tmp 39) (.tmp 41) 27 rfl i0 (.int .i64 0) 8 Try.underlying27 hi0 hz0 hz1 hz2 rfl (by decide) _ _ rfl HO.out [.int .i64 (tn : Int)] rfl rfl (by simp [Value.oneCell']) (by omega) (by omega) hbz ?_))
        intro H' c' w6 hown6 hg6
        have hb6 := HBR.out.grown hg6 hbz (fun i hi => (HO.out.lt _ hi).1)
        have hcell := (hb6.cell (p := ⟨bz, oz + tn, none⟩) hbz0).trans (HCELL.out tn htn)
        rw [show zs[tn] = y by rw [← HNX.out]; show zs[tn] = zs.getD (orb zs m k).toNat 0; rw [← HV.out.2, show ((tn : Int)).toNat = tn from rfl, getD_get htn]] at hcell
        have HW := Lib.hid (And.intro hown6 hb6)
        clear hown6 hg6 hb6 hcell0
        go_wp2
        go_roundw
        case rel =>
          exact ⟨k + 1, q + 1, c', H', y, V ++ [(tn : Int)], by omega, by omega, rfl, by rw [HQ.out], rfl, Lib.hid ⟨by rw [HLS.out, HV.out.1, HV.out.2], HNX.out.symm⟩, by rw [List.map_append]; exact HW.out.1, HW.out.2⟩
        case measure => have := HQ.out; simp only []; omega
      · have hkk : k = L := by omega
        subst hkk
        have hmem : (tn : Int) ∈ V := by
          rw [HV.out.1, HV.out.2, HFW.out.eq]
          simp only [orbL, tab, List.mem_map, List.mem_range]
          exact ⟨x, HFW.out.L1, rfl⟩
        rw [decide_eq_true hmem] at hC
        have HC := Lib.hid hC
        have hI := indexI_at H cH V (tn : Int) _ wr (own_of_rowS (by decide) hown).row (by omega) (k := x) (by omega) (by rw [HV.out.1, HV.out.2, orbL_get hxL, HFW.out.eq]) (by rw [HV.out.1, HV.out.2]; exact HFW.out.hit)
        rw [hVl, ← hq] at hI
        have HI := Lib.hid hI
        have HSTY := Lib.hid (show (y = (tn : Int)) ↔ x + 1 = k from by rw [← HFW.out.stays, ← HNX.out, HV.out.2]; exact Iff.rfl)
        clear hmem hC hown hbr hI hVl
        by_cases hys : x + 1 = k
        · have tys : (y == (tn : Int)) = true := by rw [HSTY.out.2 hys]; simp
          have HF := Lib.hid (show fwC k x = 0 by rw [fwC, if_pos hys])
          clear hys hq
          go_wp2_with (first | (go_at_call 40; (with_reducible refine HC.out.mono ?_); rintro e w' ⟨rfl, rfl⟩) | (go_at_call 41; (with_reducible refine HI.out.mono ?_); rintro e w' ⟨rfl, rfl⟩))
          go_ret2
          exact ⟨by rw [HF.out]; rfl, HBR.out⟩
        · have tys : (y == (tn : Int)) = false := by rw [beq_eq_false_iff_ne]; exact fun e => hys (HSTY.out.1 e)
          have HF := Lib.hid (show (q : Int) - x = fwC k x by rw [fwC, if_neg hys, HQ.out])
          clear hys hq
          go_wp2_with (first | (go_at_call 40; (with_reducible refine HC.out.mono ?_); rintro e w' ⟨rfl, rfl⟩) | (go_at_call 41; (with_reducible refine HI.out.mono ?_); rintro e w' ⟨rfl, rfl⟩))
          go_ret2
          exact ⟨by rw [← HF.out]; rfl, HBR.out⟩
end Go.Proofs.Ytldbefmiabgkhaa
