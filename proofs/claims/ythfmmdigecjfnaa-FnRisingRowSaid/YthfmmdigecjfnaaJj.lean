/- The walk of the law FnRisingRow. No condition. -/
import Derived.Test.YthfmmdigecjfnaaJ6
import Derived.Test.YthfmmdigecjfnaaJ5
namespace Go.Proofs.Ythfmmdigecjfnaa
open Go.RowKit

/-- What the law reads of the first longest row. -/
def RowOk (ds q : List Int) (P : Nat → Nat) : Prop := (∀ k, k < q.length → P k < ds.length ∧ q.getD k 0 = ds.getD (P k) 0 ∧ pl ds (q.getD k 0) = P k ∧ q.getD k 0 ∈ ds) ∧ ∀ k, k + 1 < q.length → P k < P (k + 1) ∧ q.getD k 0 < q.getD (k + 1) 0
theorem rowOk_rise {ds : List Int} (hv : rowB 9 ds = true) : ∃ P, RowOk ds (riseL ds) P := by
  obtain ⟨⟨js, hc, he⟩, _⟩ := riseL_best hv
  have hg : ∀ k, k < js.length → js.getD k 0 < ds.length ∧ (valsOf ds js).getD k 0 = ds.getD (js.getD k 0) 0 := fun k hk => by
    have h1 : js.getD k 0 = js[k] := by simp [List.getD, List.getElem?_eq_getElem hk]
    rw [h1]
    refine ⟨hc.2 _ (List.getElem_mem hk), ?_⟩
    rw [getD_get (by rw [vals_len]; exact hk)]
    simp [valsOf]
  refine ⟨fun k => js.getD k 0, fun k hk => ?_, fun k hk => ?_⟩
  · rw [he, vals_len] at hk
    obtain ⟨h1, h2⟩ := hg k hk
    rw [he, h2]
    refine ⟨h1, rfl, ?_, ?_⟩
    · rw [getD_get h1]; exact pl_at hv h1
    · rw [getD_get h1]; exact List.getElem_mem h1
  · rw [he, vals_len] at hk
    rw [he, (hg k (by omega)).2, (hg (k + 1) hk).2]
    have := List.pairwise_iff_getElem.1 hc.1 k (k + 1) (by omega) hk (by omega)
    simp only [List.getD, List.getElem?_eq_getElem hk, List.getElem?_eq_getElem (show k < js.length by omega), Option.getD_some]
    simpa [List.getD] using this
def atP (P : Nat → Nat) (k : Nat) : Int := if k = 0 then -1 else (P (k - 1) : Int)

set_option maxRecDepth 100000 in
set_option maxHeartbeats 2000000 in
theorem risingRow_law (A : Option Addr) (c : Nat) (zs : List Int) (w : World) (hr : Own w 0 w.heap.size A (zs.map (Value.int .u8))) (hx : zs.length ≤ c ∧ c ≤ maxLen ∧ ∀ z ∈ zs, (Lit.int .u8 z).wf = true) :
    Calls Try.prog 10 #[.slice A zs.length c] w fun e w' => e = .returned (.bool true) ∧ Below w.heap.size w w' := by
  have hl : zs.length ≤ 9223372036854775807 := by have := hx.1; have := hx.2.1; unfold maxLen at this; omega
  have HX := Lib.hid hx
  clear hx
  by_cases h20 : zs.length ≤ 1048576
  · go_enter Try.func10, Try.ntmps10
    go_wp2_with fail
    refine (drawRisingRow_any _ _ _ _ hr HX.out).mono ?_
    rintro e w1 ⟨B, d, ds, rfl, h10, hdc, ho, hb1⟩
    have hql := rowV_len ds
    obtain ⟨q, hq⟩ : ∃ q, rowV ds = q := ⟨_, rfl⟩
    rw [hq] at hql
    have HQ := Lib.hid hq
    clear hq
    go_wp2_with fail
    refine (impRisingRowOf_any _ _ _ _ ho hdc).mono ?_
    rw [HQ.out]
    rintro e w2 ⟨A2, c2, rfl, hc2, o2, hb2⟩
    have ho2 := ho.past hb2
    have hb12 := hb1.trans (hb2.mono hb1.size)
    have oq2 := o2.row
    clear ho hb1 hb2 o2
    go_wp2_with fail
    refine (specRisingRowOf_any _ _ _ _ ho2 (by omega)).mono ?_
    rw [HQ.out]
    rintro e w3 ⟨A3, c3, rfl, hc3, o3, hb3⟩
    have ho3 := ho2.past hb3
    have oq3 := oq2.past hb3
    have hb13 := hb12.trans (hb3.mono hb12.size)
    have os3 := o3.row
    clear ho2 oq2 hb12 hb3 o3
    go_wp2_with fail
    refine (equalInts_any _ _ _ _ _ _ _ oq3 os3 (by omega)).mono ?_
    rw [eqI_refl']
    rintro e w4 ⟨rfl, n4, hw4⟩
    have hb4 : Below w3.heap.size w3 w4 := by rw [hw4]; exact below_drewN (Below.refl _ _) n4
    have ho4 := ho3.past hb4
    have oq4 := oq3.past hb4
    have hb14 := hb13.trans (hb4.mono hb13.size)
    clear ho3 oq3 hb13 hb4 os3 hw4
    have hva := impValidRow_any B d ds w4 ho4 hdc
    by_cases hv : rowB 9 ds = true
    · rw [hv] at hva
      have HVA := Lib.hid hva
      have hl9 := rowB_len hv
      have hqs : q = riseL ds := by rw [← HQ.out, rowV_yes hv]
      obtain ⟨P, hP⟩ := rowOk_rise hv
      rw [← hqs] at hP
      have hrl := riseL_len hv
      rw [← hqs] at hrl
      have hrv := risV_yes hv
      rw [← hrl] at hrv
      have HP := Lib.hid hP
      have HRV := Lib.hid hrv
      clear hva hv hqs hP hrl hrv
      go_wp2_with (go_at_call 37; refine HVA.out.mono ?_; rintro e w' ⟨rfl, rfl⟩)
      go_loopw [5, 6] (fun a i wr => ∃ k : Nat, k ≤ q.length ∧ i = .int .i64 k ∧ a = .int .i64 (atP P k) ∧ ∃ z, wr = w4.drewN z) (fun _ i _ => q.length - (intOf i).toNat)
      case atStart => exact ⟨0, by omega, rfl, rfl, 0, rfl⟩
      case round =>
        obtain ⟨k, hk, rfl, rfl, z, hz⟩ := hrel
        have HZ := Lib.hid hz
        have hown : Own wr 0 wr.heap.size B (ds.map (Value.int .i64)) := by rw [hz]; exact ho4
        have hoq : Own wr 0 wr.heap.size A2 (q.map (Value.int .i64)) := by rw [hz]; exact oq4
        obtain ⟨V, hV⟩ : ∃ V : World, V = wr := ⟨_, rfl⟩
        subst hV
        clear hz
        by_cases hlt : k < q.length
        · obtain ⟨h1, -, h3, h4⟩ := HP.out.1 k hlt
          obtain ⟨b, o, rfl, hb, hc⟩ := hoq.open (by simp; omega)
          have hcK := ints_atD hc hlt
          have hpl := placeOf_any B d ds _ V hown (by omega) h4
          rw [h3] at hpl
          obtain ⟨y, hy⟩ : ∃ y, q.getD k 0 = y := ⟨_, rfl⟩
          rw [hy] at hcK hpl
          obtain ⟨p, hp⟩ : ∃ p, P k = p := ⟨_, rfl⟩
          rw [hp] at hpl h1
          have HPL := Lib.hid hpl
          have HY := Lib.hid hy
          have HPP := Lib.hid hp
          have HAT := Lib.hid (show atP P (k + 1) = (p : Int) by simp [atP, hp])
          have hkI : (k : Int) < q.length := by omega
          have hk0 : (0 : Int) ≤ (k : Int) := by omega
          by_cases hk1 : k = 0
          · have hat : atP P k = -1 := by rw [hk1]; rfl
            rw [hat]
            have hd0 : decide (0 < k) = false := decide_eq_false (by omega)
            have hdp : decide ((p : Int) ≤ -1) = false := decide_eq_false (by omega)
            clear hc hpl hy hp h3 h4 hat hown hoq hk1
            go_wp2_with (go_at_call 38; refine HPL.out.mono ?_; rintro e w' ⟨rfl, rfl⟩)
            go_quiet (fail)
            go_simp
            go_wp2
            go_roundw
            case rel => exact ⟨k + 1, by omega, by go_num, by rw [HAT.out], by rw [HZ.out]; exact ⟨_, World.drewN_drewN ..⟩⟩
            case measure => simp [intOf]; omega
          · obtain ⟨j, hj⟩ : ∃ j, k = j + 1 := ⟨k - 1, by omega⟩
            have hin := HP.out.2 j (by omega)
            rw [← hj, hy, hp] at hin
            have hcJ := ints_atD hc (show j < q.length by omega)
            have hat : atP P k = (P j : Int) := by simp [atP, hj]
            rw [hat]
            obtain ⟨y0, hy0⟩ : ∃ y, q.getD j 0 = y := ⟨_, rfl⟩
            rw [hy0] at hin hcJ
            obtain ⟨p0, hp0⟩ : ∃ p, P j = p := ⟨_, rfl⟩
            rw [hp0] at hin ⊢
            have hd0 : decide (0 < k) = true := decide_eq_true (by omega)
            have hdp : decide (p ≤ p0) = false := decide_eq_false (by omega)
            have hdy : decide (y ≤ y0) = false := decide_eq_false (by omega)
            have hwk : IntKind.i64.wrap ((k : Int) - 1) = (j : Int) := by rw [show (k : Int) - 1 = (j : Int) by omega]; exact IntWalk.i64_in _ (by omega)
            have hjI : (j : Int) < q.length := by omega
            have hj0 : (0 : Int) ≤ (j : Int) := by omega
            clear hc hpl hy hp h3 h4 hat hown hoq hk1 hin hy0 hp0 hj
            go_wp2_with (go_at_call 38; refine HPL.out.mono ?_; rintro e w' ⟨rfl, rfl⟩)
            go_quiet (fail)
            go_simp
            go_wp2
            go_roundw
            case rel => exact ⟨k + 1, by omega, by go_num, by rw [HAT.out], by rw [HZ.out]; exact ⟨_, World.drewN_drewN ..⟩⟩
            case measure => simp [intOf]; omega
        · have hkn : k = q.length := by omega
          have hrl := impRisingOf_any B d ds V hown hdc
          rw [HRV.out] at hrl
          have HRL := Lib.hid hrl
          have hb5 : Below w.heap.size w V := by rw [HZ.out]; exact below_drewN hb14 z
          have HB5 := Lib.hid hb5
          have hqq : ((q.length : Int) == (q.length : Int)) = true := by simp
          clear hrl hown hoq hb5 hkn
          go_wp2_with fail
          refine HRL.out.mono ?_
          rintro e w6 ⟨rfl, hb6⟩
          have HB6 := Lib.hid (HB5.out.trans (hb6.mono HB5.out.size))
          clear hb6
          go_wp2_with fail
          go_ret
          exact ⟨rfl, HB6.out⟩
    · have hv' : rowB 9 ds = false := by simpa using hv
      rw [hv'] at hva
      have HVA := Lib.hid hva
      clear hva hv hv'
      go_wp2_with (go_at_call 37; refine HVA.out.mono ?_; rintro e w' ⟨rfl, rfl⟩)
      refine (specRisingRowOf_any _ _ _ _ ho4 (by omega)).mono ?_
      rw [HQ.out]
      rintro e w5 ⟨A5, c5, rfl, hc5, o5, hb5⟩
      have oq5 := oq4.past hb5
      have hb15 := hb14.trans (hb5.mono hb14.size)
      have os5 := o5.row
      clear oq4 hb14 hb5 o5
      go_wp2_with fail
      refine (equalInts_any _ _ _ _ _ _ _ oq5 os5 (by omega)).mono ?_
      rw [eqI_refl']
      rintro e w6 ⟨rfl, n6, rfl⟩
      go_wp2_with fail
      go_ret
      exact ⟨rfl, below_drewN hb15 n6⟩
  · go_enter Try.func10, Try.ntmps10
    go_wp2
    go_ret
    exact ⟨rfl, Below.refl _ _⟩
end Go.Proofs.Ythfmmdigecjfnaa
