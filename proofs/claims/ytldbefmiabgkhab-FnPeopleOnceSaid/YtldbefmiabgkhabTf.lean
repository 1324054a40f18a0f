/- impl.reachMembers. No condition. -/
import Derived.Test.YtldbefmiabgkhabTe
namespace Go.Proofs.Ytldbefmiabgkhab
open Go.RowKit
open Go.Maps

/-- What 'impl.reachMembers' says. -/
def RmPost (w : World) (rs : List (List Int)) (N : Int → Prop) (b n : Nat) (D : DataW Unit) (e : Ending) (w' : World) : Prop :=
  ∃ (bb : Bool) (D' : DataW Unit) (u' : Int → Bool), e = .returned (.bool bb) ∧ w'.ownsMap Try.prog 3 (plainElem Try.prog 4) b n D' ∧ Hid (KU D' u' ∧ Un rs N u' ∧ (bb = true → Maps.size D' < Maps.size D) ∧ (bb = false → ∀ y : Nat, y < rs.length → u' y = false → ∀ z ∈ rs.getD y [], u' z = false)) ∧ Below b w w'

set_option maxRecDepth 100000 in
set_option maxHeartbeats 16000000 in
theorem reachMembers_any (A : Option Addr) (c b n : Nat) (rs : List (List Int)) (N : Int → Prop) (D : DataW Unit) (u : Int → Bool) (w : World) (hr : Grid w 0 b A rs) (hg : groupsB rs = true)
    (hown : w.ownsMap Try.prog 3 (plainElem Try.prog 4) b n D) (hku : KU D u) (hun : Un rs N u) :
    Calls Try.prog 42 #[.slice A rs.length c, .map (some b)] w (RmPost w rs N b n D) := by
  have HG := Lib.hid (gr_of hg)
  have hl5 := HG.out.n5
  have HKU := Lib.hid hku
  have HUN := Lib.hid hun
  have hbw := hown.lt
  have HR := Lib.hid hr
  have hsz := hown.size_le
  clear hku hun hg hr
  go_enter Try.func42, Try.ntmps42
  go_wp2_with (first
    | (at_len; refine wpList_len_own _ rfl _ 52 rfl 3 4 Try.underlying52 _ b n D rfl hown ?_)
    | (at_range; refine wpList_range_own _ rfl _ 52 rfl 3 4 Try.lawInt Try.underlying52 _ b n _ rfl hown ?_; intro w0 hrg0 hg0 hs0)
    | go_in)
  go_frame
  have HST := Lib.hid (And.intro hrg0 (show Below b w w0 from (Below.refl _ _).grown hg0 (by omega) (by simp)))
  clear hrg0 hg0 hs0 hown
  obtain ⟨r, hre⟩ : ∃ r, w.heap.size = r := ⟨_, rfl⟩
  rw [hre] at HST ⊢
  have HRE := Lib.hid hre
  clear hre
  go_loopw [6] (fun _ wr => ∃ (left : Lit → Bool) (cnt : Nat) (D' : DataW Unit) (u' : Int → Bool), wr.ranges Try.prog 3 (plainElem Try.prog 4) b r n D' left cnt ∧ Hid (KU D' u' ∧ Un rs N u' ∧ (∀ x : Int, left (.int .i64 x) = true → u x = true) ∧ Struck rs u D D' (fun x => left (.int .i64 x) = false)) ∧ Below b w wr)
    (fun _ wr => wr.rangeLeft b r)
  case atStart =>
    refine ⟨_, _, D, u, HST.out.1, Lib.hid ⟨HKU.out, HUN.out, fun x h => by rw [← HKU.out.1]; exact h, .inr ⟨rfl, fun x hx hs => ?_⟩⟩, HST.out.2⟩
    have h2 := HKU.out.1 x
    have hs2 : Maps.has D (.int .i64 x) = false := hs
    rw [hx, hs2] at h2
    cases h2
  case round =>
    clear HST
    obtain ⟨left, cnt, D1, u1, hrg, HS, hbr⟩ := hrel
    have HBR := Lib.hid hbr
    have hbz := hbr.size
    have hown1 := hrg.owns
    go_wp2_with (first
      | (at_next; refine wpList_next_ib _ rfl _ rfl 3 4 Try.lawInt Try.underlying3 Try.underlying4 b r n _ _ _ rfl hrg ?_ ?_)
      | (at_len; refine wpList_len_own _ rfl _ 52 rfl 3 4 Try.underlying52 _ b n _ rfl hown1 ?_)
      | go_in)
    · intro _ hl0
      have hs1 := hown1.size_le
      have HO1 := Lib.hid hown1
      have HFIN := Lib.hid (show (Maps.size D1 < Maps.size D) ∨ (Maps.size D1 = Maps.size D ∧ ∀ y : Nat, y < rs.length → u1 y = false → ∀ z ∈ rs.getD y [], u1 z = false) by
        rcases HS.out.2.2.2 with h | ⟨h, h2⟩
        · exact .inl h
        · subst h
          have e := HKU.out.one HS.out.1
          subst e
          refine .inr ⟨rfl, fun y hy hy0 z hz => ?_⟩
          cases hz1 : u z with
          | false => rfl
          | true => exact absurd hz (h2 z hz1 (hl0 _) y hy hy0))
      clear hrg hl0 hbr
      by_cases hlt : Maps.size D1 < Maps.size D
      · have td : decide (Maps.size D1 < Maps.size D) = true := decide_eq_true hlt
        have HP := Lib.hid (show RmPost w rs N b n D (.returned (.bool true)) wr from ⟨true, D1, u1, rfl, HO1.out, Lib.hid ⟨HS.out.1, HS.out.2.1, fun _ => hlt, fun h => by cases h⟩, HBR.out⟩)
        clear hlt
        go_wp2_with (first
          | (at_len; refine wpList_len_own _ rfl _ 52 rfl 3 4 Try.underlying52 _ b n _ rfl hown1 ?_)
          | go_in)
        go_ret
        exact HP.out
      · have td : decide (Maps.size D1 < Maps.size D) = false := decide_eq_false hlt
        have HP := Lib.hid (show RmPost w rs N b n D (.returned (.bool false)) wr from ⟨false, D1, u1, rfl, HO1.out, Lib.hid ⟨HS.out.1, HS.out.2.1, fun h => by (cases h), fun _ => by
          rcases HFIN.out with h | h
          · exact absurd h hlt
          · exact h.2⟩, HBR.out⟩)
        clear hlt
        go_wp2_with (first
          | (at_len; refine wpList_len_own _ rfl _ 52 rfl 3 4 Try.underlying52 _ b n _ rfl hown1 ?_)
          | go_in)
        go_ret
        exact HP.out
    · intro x cv w1 cnt1 hwx hlx hat hrg1 hlt hg1 hs1 hen
      have hu1x := HS.out.2.2.1 x hlx
      have HX := Lib.hid (And.intro hu1x (And.intro hat hwx))
      have HST := Lib.hid (And.intro hrg1 (HBR.out.grown hg1 (by omega) (fun j hj => by injection hj with hj; have := HRE.out; omega)))
      have HLT := Lib.hid hlt
      have HLE := Lib.hid hrg.left_eq
      have HSW := Lib.hid (Within.start HS.out.2.2.2 x)
      clear hrg hrg1 hlt hg1 hbr hown1 hat hu1x hlx
      go_wp2_with fail
      clear hen
      go_loopw [19] (fun i wr => ∃ (k cnt' : Nat) (D' : DataW Unit) (u' : Int → Bool), k ≤ rs.length ∧ i = .int .i64 k ∧ wr.ranges Try.prog 3 (plainElem Try.prog 4) b r n D' (fun z => left z && !z.sameKey (.int .i64 x)) cnt' ∧ cnt' ≤ cnt1 ∧ Hid (KU D' u' ∧ Un rs N u' ∧ Within rs u D D' (fun x => left (.int .i64 x) = false) x k) ∧ Below b w wr)
        (fun i _ => rs.length - (intOf i).toNat)
      case atStart => exact ⟨0, cnt1, D1, u1, by omega, rfl, HST.out.1, Nat.le_refl _, Lib.hid ⟨HS.out.1, HS.out.2.1, HSW.out⟩, HST.out.2⟩
      case round =>
        clear HST
        obtain ⟨k, cnt', D2, u2, hk, rfl, hrg, hcn, HS2, hbr⟩ := hrel
        have HBR2 := Lib.hid hbr
        have hbz2 := hbr.size
        by_cases hlt : k < rs.length
        · obtain ⟨bb, o, R, c1, rfl, hb0, hcell, hc1, ho⟩ := (HR.out.below hbr).open hlt
          have hlook := lookB hrg.owns HS2.out.1 (x := (k : Int)) (int_wf (by omega) (by omega))
          have HGD := Lib.hid (getD_row hlt)
          have hm4 := HG.out.m4 k hlt
          have HC := Lib.hid (fun (W : World) (hW : W = wr) => containsI_any R c1 rs[k] x b W (by rw [hW]; exact ho.row) (by omega))
          obtain ⟨rw0, hrw0⟩ : ∃ r', rs[k] = r' := ⟨_, rfl⟩
          rw [hrw0] at hcell HGD hm4 HC
          have hkI : (k : Int) < (rs.length : Int) := by omega
          have hxs := HX.out.1
          have hkeyx := keyOf_int_mk Try.underlying3 HX.out.2.2
          have hown2 := hrg.owns
          have HTIDY := Lib.hid (hown2.tidy Try.lawInt)
          clear hc1 ho hrw0 hbr hown2
          cases huk : u2 (k : Int) with
          | true =>
            rw [huk] at hlook
            have HW := Lib.hid (HS2.out.2.2.keep HKU.out HS2.out.1 (.inl huk))
            have HRG := Lib.hid hrg
            clear huk hrg hkeyx
            go_wp2_with fail
            go_roundw
            case rel => exact ⟨k + 1, cnt', D2, u2, by omega, by go_num, HRG.out, hcn, Lib.hid ⟨HS2.out.1, HS2.out.2.1, HW.out⟩, HBR2.out⟩
            case measure => simp [intOf]; omega
          | false =>
            rw [huk] at hlook
            by_cases hxr : x ∈ rw0
            · have HC2 := Lib.hid (HC.out wr rfl)
              rw [decide_eq_true hxr] at HC2
              have HUS := Lib.hid (HS2.out.2.1.strike (y := k) hlt (by omega) huk (by rw [HGD.out]; exact hxr))
              have HW := Lib.hid (HS2.out.2.2.strike (m := k + 1) HKU.out HTIDY.out hxs)
              have HKD := Lib.hid (HS2.out.1.del x)
              clear huk hxr HC
              go_wp2_with (first
                | (go_at_call 35; (with_reducible refine HC2.out.mono ?_); rintro e w' ⟨rfl, rfl⟩)
                | (at_delete; refine wpList_delete_ranges _ rfl _ _ 52 3 rfl 4 Try.lawInt Try.underlying52 _ b r n _ _ _ rfl hrg _ _ rfl hkeyx ?_; intro w2 cnt2 hrg2 hle hturn; go_frame)
                | go_in)
              rw [strike_twice] at hrg2
              have HRG := Lib.hid (And.intro hrg2 (HBR2.out.grown hturn.grown (by omega) (fun j hj => by injection hj with hj; omega)))
              clear hrg hrg2 hturn
              go_roundw
              case rel => exact ⟨k + 1, cnt2, _, _, by omega, by go_num, HRG.out.1, by omega, Lib.hid ⟨HKD.out, HUS.out, HW.out⟩, HRG.out.2⟩
              case measure => simp [intOf]; omega
            · have HC2 := Lib.hid (HC.out wr rfl)
              rw [decide_eq_false hxr] at HC2
              have HW := Lib.hid (HS2.out.2.2.keep HKU.out HS2.out.1 (.inr (by rw [HGD.out]; exact hxr)))
              have HRG := Lib.hid hrg
              clear huk hxr HC hrg hkeyx
              go_wp2_with (first
                | (go_at_call 35; (with_reducible refine HC2.out.mono ?_); rintro e w' ⟨rfl, rfl⟩)
                | go_in)
              go_roundw
              case rel => exact ⟨k + 1, cnt', D2, u2, by omega, by go_num, HRG.out, hcn, Lib.hid ⟨HS2.out.1, HS2.out.2.1, HW.out⟩, HBR2.out⟩
              case measure => simp [intOf]; omega
        · have hke : k = rs.length := by omega
          subst hke
          have HRG := Lib.hid hrg
          have HDN := Lib.hid (HS2.out.2.2.done (seen' := fun z => (left (.int .i64 z) && !(Lit.int .i64 z).sameKey (.int .i64 x)) = false) (fun z hz => by
            rw [same_int, Bool.and_eq_false_iff] at hz
            rcases hz with hz | hz
            · exact .inl hz
            · right; simpa using hz))
          clear hbr hrg
          go_wp2_with fail
          go_roundw
          case rel => exact ⟨_, cnt', D2, u2, HRG.out, Lib.hid ⟨HS2.out.1, HS2.out.2.1, fun z hz => HS.out.2.2.1 z (by rw [Bool.and_eq_true] at hz; exact hz.1), HDN.out⟩, HBR2.out⟩
          case measure => have h1 := HRG.out.left_eq; have h2 := HLE.out; have h3 := HLT.out; omega
end Go.Proofs.Ytldbefmiabgkhab
