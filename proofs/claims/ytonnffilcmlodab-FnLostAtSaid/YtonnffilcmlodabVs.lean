/- Hops: LostAt on both sides. No condition. -/
import Derived.Test.YtonnffilcmlodabVq
namespace Go.Proofs.Ytonnffilcmlodab
open Go.RowKit

/-- The answer of LostAt. -/
def lostOk (zs : List Int) : Bool := hopsB zs && decide (0 < allL zs)
def lostQ (zs : List Int) : List (Nat × Nat) := if lostOk zs then lostL zs else []
theorem lostQ_yes {zs : List Int} (h : lostOk zs = true) : lostQ zs = lostL zs := by rw [lostQ, if_pos h]
theorem lostQ_no {zs : List Int} (h : lostOk zs = false) : lostQ zs = [] := by rw [lostQ, if_neg (by simp [h])]
/-- A list of fractions that a call makes. -/
def qRes (w : World) (V : List (Nat × Nat)) (b : Bool) (e : Ending) (w' : World) : Prop := ∃ A c, e = .returned (.tuple #[.slice A V.length c, .bool b]) ∧ V.length ≤ c ∧ Own w' (w.heap.size + 1) w'.heap.size A (flatQ V) ∧ Below w.heap.size w w'
theorem qRes_row {w w' : World} {A : Option Addr} {n c : Nat} {V : List (Nat × Nat)} {b : Bool} (h : w'.ownsRow w.heap.size 26 2 (.slice A n c) n (flatQ V)) (hn : n = V.length) (hb : Below w.heap.size w w') : qRes w V b (.returned (.tuple #[.slice A n c, .bool b])) w' := by
  subst hn
  refine ⟨A, c, rfl, own_cap h, ?_, hb⟩
  by_cases hV : V.length = 0
  · exact .inl (by rw [List.eq_nil_of_length_eq_zero hV]; rfl)
  · obtain ⟨g, rfl, h1, h2⟩ := own_some h (by omega)
    refine .inr ⟨g, 0, rfl, by omega, h2, fun j u hu => ?_, fun _ j => h.frozenAt j⟩
    rw [Nat.zero_add, h.cellAt j (by have := (List.getElem?_eq_some_iff.1 hu).1; rw [flatQ_length] at this; omega)]
    exact hu
theorem qRes_none {w w' : World} {V : List (Nat × Nat)} {b : Bool} (hV : V = []) (hB : b = false) (hb : Below w.heap.size w w') : qRes w V b (.returned (.tuple #[.slice none 0 0, .bool false])) w' := by
  subst hV hB
  exact ⟨none, 0, rfl, Nat.le_refl _, .inl rfl, hb⟩

theorem own_lessF {w : World} {base base' n : Nat} {e : TypeId} {v : Value} {size : Nat} {xs : List Value} (h : w.ownsRow base e size v n xs) (hb : base' ≤ base) : w.ownsRow base' e size v n xs := by
  refine ⟨h.1, ?_⟩
  rcases h.2 with hn | ⟨k, cap, cur, rfl, hb2, hgg, rest⟩
  · exact .inl hn
  · exact .inr ⟨k, cap, cur, rfl, by omega, hgg, rest⟩
theorem infoI3 : (Try.prog.info? 3).map (fun i => (i.zero, i.size, i.bytes)) = some (some (.int .i64 0), 1, 8) := by kernel_rfl
theorem first_litL (W : World) : (W.alloc (.cells #[] 3)).ownsRow W.heap.size 3 1 (.slice (some ⟨W.heap.size, 0, none⟩) 0 0) 0 [] := ⟨rfl, .inr ⟨W.heap.size, 0, #[], rfl, Nat.le_refl _, heap_alloc_new W _, Nat.le_refl _, by simp [maxLen], rfl, rfl⟩⟩
theorem first_litQ (W : World) : (W.alloc (.cells #[] 26)).ownsRow W.heap.size 26 2 (.slice (some ⟨W.heap.size, 0, none⟩) 0 0) 0 (flatQ []) := ⟨rfl, .inr ⟨W.heap.size, 0, #[], rfl, Nat.le_refl _, heap_alloc_new W _, Nat.le_refl _, by simp [maxLen], rfl, rfl⟩⟩
/-- The numbers x of the first hops. -/
def xsTo (zs : List Int) (k : Nat) : List Int := (List.range k).map fun h => ((xL zs h : Nat) : Int)
theorem xsTo_succ (zs : List Int) (k : Nat) : xsTo zs (k + 1) = xsTo zs k ++ [((xL zs k : Nat) : Int)] := by simp [xsTo, List.range_succ]
theorem xsTo_len (zs : List Int) (k : Nat) : (xsTo zs k).length = k := by simp [xsTo]
theorem xsTo_get {zs : List Int} {n k : Nat} (h : k < n) : ((xsTo zs n).map (Value.int .i64))[k]? = some (.int .i64 ((xL zs k : Nat) : Int)) := by simp [xsTo, h]
def lostTo (zs : List Int) (k : Nat) : List (Nat × Nat) := (List.range k).map fun h => red (xL zs h) (allL zs)
theorem lostTo_succ (zs : List Int) (k : Nat) : lostTo zs (k + 1) = lostTo zs k ++ [red (xL zs k) (allL zs)] := by simp [lostTo, List.range_succ]
theorem lostTo_len (zs : List Int) (k : Nat) : (lostTo zs k).length = k := by simp [lostTo]

set_option maxRecDepth 100000 in
set_option maxHeartbeats 8000000 in
theorem specLost_any (A : Option Addr) (c : Nat) (zs : List Int) (w : World) (hr : Ints w w.heap.size A zs) (hl : zs.length ≤ 9000000000000000000) :
    Calls Try.prog 15 #[.slice A zs.length c] w (qRes w (lostQ zs) (lostOk zs)) := by
  obtain ⟨i0, hi0, hz0, hz1, hz2⟩ := info_parts infoI3
  obtain ⟨j0, hj0, hy0, hy1, hy2⟩ := info_parts Try.infoFr
  have HV := Lib.hid (validHops_any A c zs w hr hl)
  by_cases hv : hopsB zs = true
  · obtain ⟨h0, h1, h5⟩ := hops_of hv
    rw [hv] at HV
    have HOK := Lib.hid (show lostOk zs = decide (0 < allL zs) by rw [lostOk, hv, Bool.true_and])
    have HH := Lib.hid h0
    have HR := Lib.hid hr
    have HPW := Lib.hid (fun (k : Nat) (hk : k ≤ 5) X => show Calls Try.prog 35 #[.int .i64 10, .int .i64 (k : Int)] X fun e w' => e = .returned (.int .i64 ((10 ^ k : Nat) : Int)) ∧ X = w' from power_any 10 k X (by omega) (ten_pow_le hk) (by omega))
    have HPL := Lib.hid (fun k (hk : k ≤ zs.length) => show prL (zs.take k) ≤ 100000 from Nat.le_trans (prL_le _) (ten_le (by rw [List.length_take]; omega)))
    have HXL := Lib.hid (fun k (hk : k < zs.length) => show xL zs k ≤ 100000 from Nat.le_trans (xL_le h0 hk) (Nat.le_trans (Nat.sub_le _ _) (ten_le h5)))
    have HSX := Lib.hid (fun k (hk : k ≤ zs.length) => show sumX zs k ≤ 100000 from Nat.le_trans (sumX_le zs k _ hk) (by rw [sumX_all h0]; exact Nat.le_trans (Nat.sub_le _ _) (ten_le h5)))
    have HSA := Lib.hid (sumX_all h0)
    have HST := Lib.hid (first_litL w)
    clear hv h0 hr
    go_enter Try.func15, Try.ntmps15
    go_wp2_with (go_at_call 33; (with_reducible refine HV.out.mono ?_); rintro e w' ⟨rfl, rfl⟩)
    clear HV
    go_loopw [4, 5, 6, 7] (fun v u s i wr => ∃ (k : Nat) (H : Option Addr) (cH : Nat), k ≤ zs.length ∧ i = .int .i64 k ∧ u = .int .i64 (prL (zs.take k) : Nat) ∧ s = .int .i64 (sumX zs k : Nat) ∧ v = .slice H k cH ∧ wr.ownsRow w.heap.size 3 1 (.slice H k cH) k ((xsTo zs k).map (Value.int .i64)) ∧ Below w.heap.size w wr) (fun _ _ _ i _ => zs.length - (intOf i).toNat)
    case atStart => exact ⟨0, _, _, by omega, rfl, rfl, rfl, rfl, HST.out, (Below.refl _ _).alloc (Nat.le_refl _) _⟩
    case round =>
      obtain ⟨k, H, cH, hk, rfl, rfl, rfl, rfl, hown, hbr⟩ := hrel
      clear HST
      have HBR := Lib.hid hbr
      have HO := Lib.hid hown
      have hbz := hbr.size
      by_cases hlt : k < zs.length
      · obtain ⟨b, o, rfl, hb, hc⟩ := (HR.out.below hbr).open (by simp; omega)
        have hcell := ints_at hc hlt
        have hzb := HH.out _ (List.getElem_mem hlt)
        have HTK := Lib.hid (prL_take hlt)
        have HXK := Lib.hid (show xL zs k = prL (zs.take k) * (zs[k]).toNat * 10 ^ (zs.length - 1 - k) by unfold xL; rw [getD_getF hlt])
        have HSK := Lib.hid (show sumX zs (k + 1) = sumX zs k + xL zs k from rfl)
        have HXS := Lib.hid (xsTo_succ zs k)
        have hp1 := HPL.out k hk
        have hp2 := HPL.out (k + 1) (by omega)
        have hx := HXL.out k hlt
        have hs1 := HSX.out k hk
        have hs2 := HSX.out (k + 1) (by omega)
        rw [HTK.out] at hp2
        rw [HSK.out] at hs2
        obtain ⟨z, hz⟩ : ∃ z, zs[k] = z := ⟨_, rfl⟩
        rw [hz] at hcell HTK hzb hp2 HXK
        obtain ⟨y, rfl⟩ : ∃ y : Nat, z = y := ⟨z.toNat, by omega⟩
        rw [Int.toNat_natCast] at HTK hp2 HXK
        have e10 : (10 : Int) - (y : Int) = ((10 - y : Nat) : Int) := by omega
        obtain ⟨t, ht⟩ : ∃ t, 10 - y = t := ⟨_, rfl⟩
        obtain ⟨P, hP⟩ : ∃ P, prL (zs.take k) = P := ⟨_, rfl⟩
        have HP10 := Lib.hid (HPW.out (zs.length - 1 - k) (by omega))
        obtain ⟨D, hD⟩ : ∃ D, 10 ^ (zs.length - 1 - k) = D := ⟨_, rfl⟩
        obtain ⟨X, hX⟩ : ∃ X, xL zs k = X := ⟨_, rfl⟩
        obtain ⟨S, hS⟩ : ∃ S, sumX zs k = S := ⟨_, rfl⟩
        obtain ⟨q, hq⟩ : ∃ q, zs.length - 1 - k = q := ⟨_, rfl⟩
        rw [ht] at e10 HTK hp2
        rw [hP] at HTK hp1 hp2 HXK ⊢
        rw [hD] at HP10 HXK
        rw [hX] at HXK HSK HXS hx hs2
        rw [hS] at HSK hs1 hs2 ⊢
        rw [hq] at HP10
        have hqI : (zs.length : Int) - 1 - (k : Int) = (q : Int) := by omega
        have hqI2 : IntKind.i64.wrap ((zs.length : Int) - 1 - (k : Int)) = (q : Int) := by rw [hqI]; exact IntWalk.i64_in _ (by omega)
        have hy10 : y ≤ 10 := by omega
        have ey : (P : Int) * (y : Int) = ((P * y : Nat) : Int) := (Int.natCast_mul _ _).symm
        have hpy : P * y ≤ 100000 * 10 := Nat.mul_le_mul hp1 hy10
        obtain ⟨Z, hZ⟩ : ∃ Z, P * y = Z := ⟨_, rfl⟩
        rw [hZ] at ey hpy HXK
        have ez : (Z : Int) * (D : Int) = (X : Int) := by rw [HXK.out]; exact (Int.natCast_mul _ _).symm
        have em : (P : Int) * (t : Int) = ((P * t : Nat) : Int) := (Int.natCast_mul _ _).symm
        obtain ⟨Q, hQ⟩ : ∃ Q, P * t = Q := ⟨_, rfl⟩
        rw [hQ] at HTK em hp2
        have hkI : (k : Int) < zs.length := by omega
        have ht10 : t ≤ 10 := by omega
        have hk0 : (0 : Int) ≤ (k : Int) := by omega
        have HQ0 := Lib.hid (fun m => (HP10.out (wr.drewN m)).mono (fun _ w3 h => And.intro h.1 (show ∃ z, w3 = (wr.drewN m).drewN z from ⟨0, h.2.symm⟩)))
        clear hc hz ht hP hD hX hS hq hZ hQ hzb hown hbr
        go_wp2_with fail
        go_quiet ((go_at_call 35; exact Calls.quiet_of (HQ0.out _)))
        have hdb := drewBelow wr nq
        have ho5 := own_keepF HO.out hdb
        have HBW := Lib.hid (HBR.out.trans (hdb.mono hbz))
        have hcell' := keepF hdb (show b < wr.heap.size by omega) hcell
        obtain ⟨W, hW⟩ : ∃ W, wr.drewN nq = W := ⟨_, rfl⟩
        rw [hW] at ho5 HBW hcell' ⊢
        have hbz2 := HBW.out.size
        have HO5 := Lib.hid ho5
        clear hW hdb ho5 hcell HQ0 HP10
        go_wp2_with (at_builtin; refine wpList_push rfl (.tmp 34) (.tmp 36) 23 rfl i0 (.int .i64 0) 8 Try.underlying23 hi0 hz0 hz1 hz2 rfl (by decide) _ _ rfl HO5.out [.int .i64 (X : Int)] rfl rfl (by simp [Value.oneCell']) (by omega) (by omega) hbz2 ?_)
        intro H' c' w6 hown6 hg6
        have hc6 : w6.cell? ⟨b, o + k, none⟩ = some (.int .i64 (y : Int)) := (World.cell?_of_block (a := ⟨b, o + k, none⟩) (hg6.block b (by omega) (fun e => by have := (HO5.out.lt b e.symm).1; omega))).trans hcell'
        have HW := Lib.hid (show w6.ownsRow w.heap.size 3 1 (.slice H' (k + 1) c') (k + 1) ((xsTo zs (k + 1)).map (Value.int .i64)) ∧ Below w.heap.size w w6 from ⟨by rw [HXS.out, List.map_append]; exact hown6, HBW.out.grown hg6 hbz2 (fun i hi => (HO5.out.lt _ hi).1)⟩)
        clear hown6 hg6 hcell'
        go_wp2
        go_roundw
        case rel => exact ⟨k + 1, H', c', by omega, by go_num, by rw [HTK.out], by rw [HSK.out]; go_num, rfl, HW.out.1, HW.out.2⟩
        case measure => simp [intOf]; omega
      · have hke : k = zs.length := by omega
        subst hke
        have hs2 := HSX.out zs.length (Nat.le_refl _)
        have HTL := Lib.hid (show prL (zs.take zs.length) = prL zs by rw [List.take_length])
        rw [HSA.out] at hs2 ⊢
        rw [HTL.out]
        obtain ⟨PP, hPP⟩ : ∃ PP, prL zs = PP := ⟨_, rfl⟩
        have HPP := Lib.hid hPP
        rw [hPP] at hs2 HSA ⊢
        clear hPP
        have HAL := Lib.hid (show 10 ^ zs.length - PP = allL zs by rw [← HPP.out]; rfl)
        rw [HAL.out] at hs2 ⊢
        by_cases hz : allL zs = 0
        · have HF := Lib.hid (show lostOk zs = false by rw [HOK.out, hz]; rfl)
          rw [hz]
          clear hown hbr
          go_wp2
          go_ret2
          exact qRes_none (lostQ_no HF.out) HF.out HBR.out
        · have HF := Lib.hid (show lostOk zs = true by rw [HOK.out]; exact decide_eq_true (by omega))
          have HFQ := Lib.hid (show lostQ zs = lostTo zs zs.length by rw [lostQ_yes HF.out]; rfl)
          have HFR := Lib.hid (fun k (hk : k < zs.length) X => frac_any (xL zs k) (allL zs) X (by omega) (by have := HXL.out k hk; omega) (by omega))
          have hlq := fun k => lostTo_succ zs k
          have HLQ := Lib.hid hlq
          clear hlq
          obtain ⟨G, hG⟩ : ∃ G, allL zs = G := ⟨_, rfl⟩
          have HGG := Lib.hid hG
          rw [hG] at HFR hs2 hz HLQ ⊢
          have hg1 : ((G : Int) == 0) = false := by simp; omega
          have hgn1 : (G == 0) = false := by simp; omega
          have hgn2 : decide (G = 0) = false := decide_eq_false hz
          obtain ⟨g, rfl, hg2, hg3⟩ := own_some hown (by omega)
          obtain ⟨W0, hW0⟩ : ∃ W0, W0 = wr := ⟨_, rfl⟩
          subst hW0
          have hbel : Below W0.heap.size W0 (W0.alloc (.cells #[] 26)) := (Below.refl _ _).alloc (Nat.le_refl _) _
          have HST2 := Lib.hid (And.intro (first_litQ W0) hbel)
          clear hown hbr hbel hG hg3
          go_wp2
          clear hg1 hgn1 hgn2
          go_loopw [9, 10] (fun v i wr => ∃ (k : Nat) (H : Option Addr) (cQ : Nat), k ≤ zs.length ∧ i = .int .i64 k ∧ v = .slice H k cQ ∧ wr.ownsRow W0.heap.size 26 2 (.slice H k cQ) k (flatQ (lostTo zs k)) ∧ Below W0.heap.size W0 wr) (fun _ i _ => zs.length - (intOf i).toNat)
          case atStart => exact ⟨0, _, _, by omega, rfl, rfl, HST2.out.1, HST2.out.2⟩
          case round =>
            obtain ⟨k, H, cQ, hk, rfl, rfl, hown, hbr⟩ := hrel
            clear HST2
            have HO2 := Lib.hid hown
            have HB2 := Lib.hid hbr
            have hbz2 := hbr.size
            by_cases hlk : k < zs.length
            · have hcx := HO.out.cellAt k (by omega)
              rw [xsTo_get hlk] at hcx
              have hcx2 := keepF hbr (HO.out.lt g rfl).2 hcx
              have HFK := Lib.hid (HFR.out k hlk)
              have HLK := Lib.hid (HLQ.out k)
              obtain ⟨x, hx⟩ : ∃ x, xL zs k = x := ⟨_, rfl⟩
              obtain ⟨r, hrr⟩ : ∃ r, red (xL zs k) G = r := ⟨_, rfl⟩
              rw [hrr] at HFK HLK
              rw [hx] at HFK hcx2
              obtain ⟨r1, r2⟩ := r
              unfold frV at HFK
              dsimp only at HFK
              have hkI : (k : Int) < zs.length := by omega
              clear hx hrr hcx hown hbr
              go_wp2_with fail
              refine (HFK.out _).mono ?_
              rintro e w5 ⟨rfl, hb5⟩
              have ho5 := own_keepF HO2.out hb5
              have HO5 := Lib.hid ho5
              have HB5 := Lib.hid (HB2.out.trans (hb5.mono hbz2))
              have hbz5 := HB5.out.size
              clear ho5 hb5
              go_wp2_with (at_builtin; refine wpList_push rfl (.tmp 57) (.tmp 64) 32 rfl j0 (.agg #[.int .i64 0, .int .i64 0]) 16 Try.underlying32 hj0 hy0 hy1 hy2 rfl (by decide) _ _ rfl HO5.out [.int .i64 (r1 : Int), .int .i64 (r2 : Int)] rfl rfl (by simp [Value.oneCell']) (by omega) (by omega) hbz5 ?_)
              intro H' c' w6 hown6 hg6
              have HW := Lib.hid (show w6.ownsRow W0.heap.size 26 2 (.slice H' (k + 1) c') (k + 1) (flatQ (lostTo zs (k + 1))) ∧ Below W0.heap.size W0 w6 from ⟨by rw [HLK.out, flatQ_append]; exact hown6, HB5.out.grown hg6 hbz5 (fun i hi => (HO5.out.lt _ hi).1)⟩)
              clear hown6 hg6
              go_wp2
              go_roundw
              case rel => exact ⟨k + 1, H', c', by omega, by go_num, rfl, HW.out.1, HW.out.2⟩
              case measure => simp [intOf]; omega
            · have hke : k = zs.length := by omega
              have HFIN := Lib.hid (show qRes w (lostQ zs) (lostOk zs) (.returned (.tuple #[.slice H k cQ, .bool true])) wr by
                rw [HF.out, HFQ.out, ← hke]
                exact qRes_row (own_lessF HO2.out hbz) (by rw [lostTo_len]) (HBR.out.trans (HB2.out.mono hbz)))
              clear hown hbr hke
              go_wp2
              go_ret2
              exact HFIN.out
  · have hv' : hopsB zs = false := by simpa using hv
    rw [hv'] at HV
    have HF := Lib.hid (show lostOk zs = false by rw [lostOk, hv', Bool.false_and])
    clear hv hv'
    go_enter Try.func15, Try.ntmps15
    go_wp2_with (go_at_call 33; (with_reducible refine HV.out.mono ?_); rintro e w' ⟨rfl, rfl⟩)
    go_ret2
    exact qRes_none (lostQ_no HF.out) HF.out (Below.refl _ _)
end Go.Proofs.Ytonnffilcmlodab
