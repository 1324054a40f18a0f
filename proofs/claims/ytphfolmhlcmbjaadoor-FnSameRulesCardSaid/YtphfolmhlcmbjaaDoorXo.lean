/- spec.TrimRules. No condition. -/
import Derived.Test.YtphfolmhlcmbjaaDoorXw
import Derived.Test.YtphfolmhlcmbjaaDoorX7
namespace Go.Proofs.YtphfolmhlcmbjaaDoor
open Go.RowKit

def trimQ (rs : List (ByteArray × Int)) : List (ByteArray × Int) := if rulesB rs = true then trimV rs else []
theorem stays_back {ks : List (ByteArray × Int)} {j : Nat} (h : Stays ks (j + 1)) (hn : sameV ks (ks.eraseIdx j) = false) : Stays ks j := fun i h1 h2 => by
  by_cases e : i = j
  · subst e; exact hn
  · exact h i (by omega) h2

set_option maxRecDepth 100000 in
set_option maxHeartbeats 8000000 in
theorem specTrimRules_any (A : Option Addr) (c : Nat) (rs : List (ByteArray × Int)) (w : World) (hr : Own w 0 w.heap.size A (flat rs)) (hl : rs.length ≤ 1048576) (hs : ∀ r ∈ rs, r.1.size ≤ 1048576) :
    Calls Tryd.prog 31 #[.slice A rs.length c] w (TrimPostU (trimQ rs) w) := by
  obtain ⟨i0, hi0, hz0, hz1, hz2⟩ := info_parts Tryd.infoU
  have hva := specvRules_any A c rs w hr hl hs
  clear hs
  by_cases hv : rulesB rs = true
  · rw [hv] at hva
    have HVA := Lib.hid hva
    have HB := Lib.hid hv
    have HR := Lib.hid (show trimQ rs = trimV rs by rw [trimQ, if_pos hv])
    have HTV := Lib.hid (show trimV rs = trimS rs.length rs from rfl)
    have h7 := rulesB_len hv
    rw [HR.out]
    obtain ⟨V, hV⟩ : ∃ V, trimV rs = V := ⟨_, rfl⟩
    rw [hV] at HTV
    rw [hV]
    clear hva hv hV
    go_enter Tryd.func31, Tryd.ntmps31
    go_wp2_with fail
    refine HVA.out.mono ?_
    rintro e w0 ⟨rfl, n0, hw0⟩
    have hb0 : Below w.heap.size w w0 := by rw [hw0]; exact below_drewN (Below.refl _ _) n0
    have hz0' := hb0.size
    have hown0 := firstU w0 w0.heap.size (Nat.le_refl _)
    have hor := (hr.past hb0).below ((Below.refl _ _).alloc (Nat.le_refl _) (.cells #[] 31))
    have HON := Lib.hid (flatU_ones rs)
    have HB0 := Lib.hid hb0
    clear hw0 hb0
    go_wp2_with (at_builtin; refine wpList_extend rfl (.tmp 9) (.tmp 10) 23 rfl i0 (.agg #[.string ⟨#[]⟩, .int .i64 0]) 24 Tryd.underlying23 hi0 hz0 hz1 hz2 rfl (by decide) _ _ rfl hown0 _ _ _ _ (flat rs) rfl (by rw [flat_length]; omega) hor HON.out (by omega) (by omega) (by simp) ?_)
    intro A6 c6 w6 hown6 hg6
    have hg56 : w0.grownBy w6 none := g_new (World.grownBy_alloc w0 _ none) hg6 (fun i hi => (hown0.lt _ hi).1)
    try simp only [Nat.zero_add]
    have hk6 : KeptU w6 w.heap.size A6 c6 rs := keptU_of_row (ks := rs) (own_base (by simpa using hown6) hz0') rfl
    have HK6 := Lib.hid (And.intro hk6 (HB0.out.trans ((below_g hg56 (Nat.le_refl _)).mono hz0')))
    clear hown0 hor hown6 hg6 hg56 hk6
    go_wp2
    go_loopw [3, 4] (fun v a wr => ∃ (ks : List (ByteArray × Int)) (A : Option Addr) (c : Nat) (b : Bool), v = .slice A ks.length c ∧ a = .bool b ∧ Hid (b = false → ks = V) ∧ Hid (trimS ks.length ks = V) ∧ rulesB ks = true ∧ KeptU wr w.heap.size A c ks ∧ Below w.heap.size w wr) (fun v a _ => 2 * (match v with | .slice _ m _ => m | _ => 0) + (match a with | .bool true => 1 | _ => 0))
    case atStart => exact ⟨rs, A6, c6, true, rfl, rfl, Lib.hid (fun h => by cases h), Lib.hid HTV.out.symm, HB.out, HK6.out.1, HK6.out.2⟩
    case round =>
      obtain ⟨ks0, A0, c0, b, rfl, rfl, HF, HT, hrv, hkept, hbr⟩ := hrel
      clear HK6
      have HK := Lib.hid hkept
      have HBR := Lib.hid hbr
      have HRV := Lib.hid hrv
      have h07 := rulesB_len hrv
      obtain ⟨W, hW⟩ : ∃ W : World, W = wr := ⟨_, rfl⟩
      subst hW
      clear hkept hbr hrv
      cases b with
      | false =>
        have HV2 := Lib.hid (HF.out rfl)
        go_wp2
        go_ret
        rw [← HV2.out]
        exact ⟨A0, c0, rfl, HK.out.1.1, HK.out.own, HBR.out⟩
      | true =>
        clear HF
        have hwl : IntKind.i64.wrap ((ks0.length : Int) - 1) = (ks0.length : Int) - 1 := IntWalk.i64_in _ (by omega)
        go_wp2
        clear hwl
        go_loopw [3, 4, 5] (fun v a i wx => ∃ (ks : List (ByteArray × Int)) (A : Option Addr) (c : Nat) (b : Bool) (k : Nat), v = .slice A ks.length c ∧ a = .bool b ∧ i = .int .i64 ((k : Int) - 1) ∧ k ≤ 8 ∧ (b = false → k ≤ ks.length ∧ ks.length = ks0.length) ∧ (b = true → ks.length + 1 = ks0.length) ∧ Hid (b = false → Stays ks k) ∧ Hid (trimS ks.length ks = V) ∧ rulesB ks = true ∧ KeptU wx w.heap.size A c ks ∧ Below w.heap.size w wx) (fun _ _ i _ => (intOf i + 1).toNat)
        case atStart => exact ⟨ks0, A0, c0, false, ks0.length, rfl, rfl, rfl, by omega, fun _ => ⟨Nat.le_refl _, rfl⟩, (fun h => by cases h), Lib.hid (fun _ => stays_len ks0), HT, HRV.out, HK.out, HBR.out⟩
        case round =>
          obtain ⟨ks, A, c, b, k, rfl, rfl, rfl, hk8, hbF, hbT, HST, HT2, hrv, hkept, hbx⟩ := hrel
          have HK2 := Lib.hid hkept
          have HBX := Lib.hid hbx
          have HRV2 := Lib.hid hrv
          have hxz := hbx.size
          have hks7 := rulesB_len hrv
          have hcap := hkept.1.1
          obtain ⟨X, hX⟩ : ∃ X : World, X = wr := ⟨_, rfl⟩
          subst hX
          clear hkept hbx
          cases b with
          | true =>
            have HL1 := Lib.hid (hbT rfl)
            by_cases hk0 : k = 0
            · have hneg : ¬ (0 : Int) ≤ (k : Int) - 1 := by omega
              clear hbF hbT
              go_wp2
              go_roundw
              case rel => exact ⟨ks, A, c, true, rfl, rfl, Lib.hid (fun h => by cases h), HT2, HRV2.out, HK2.out, HBX.out⟩
              case measure => have := HL1.out; simp; omega
            · have hpos : (0 : Int) ≤ (k : Int) - 1 := by omega
              clear hbF hbT hk0
              go_wp2
              go_roundw
              case rel => exact ⟨ks, A, c, true, rfl, rfl, Lib.hid (fun h => by cases h), HT2, HRV2.out, HK2.out, HBX.out⟩
              case measure => have := HL1.out; simp; omega
          | false =>
            obtain ⟨hkl, hleq⟩ := hbF rfl
            have HLEQ := Lib.hid hleq
            clear hleq
            clear hbF hbT
            by_cases hk0 : k = 0
            · subst hk0
              have HE := Lib.hid (show ks = V by rw [← HT2.out]; exact (trimS_end (HST.out rfl)).symm)
              have hneg : ¬ (0 : Int) ≤ ((0 : Nat) : Int) - 1 := by omega
              go_wp2
              go_roundw
              case rel => exact ⟨ks, A, c, false, rfl, rfl, Lib.hid (fun _ => HE.out), HT2, HRV2.out, HK2.out, HBX.out⟩
              case measure => have := HLEQ.out; simp; omega
            · obtain ⟨j, rfl⟩ : ∃ j, k = j + 1 := ⟨k - 1, by omega⟩
              have hjl : j < ks.length := by omega
              have hi : ((j + 1 : Nat) : Int) - 1 = (j : Int) := by omega
              have hj0 : (0 : Int) ≤ (j : Int) := by omega
              have hjw : IntKind.i64.wrap ((j : Int) - 1) = (j : Int) - 1 := IntWalk.i64_in _ (by omega)
              have hwo := fun Y hY => without_any A c ks j Y hY hcap hjl (by omega)
              have hrv2 : rulesB (ks.eraseIdx j) = true := rulesB_sub hrv (List.eraseIdx_sublist ..)
              have HY1 := Lib.hid (fun h => trimS_step_yes (rs := ks) (i := j) hjl (HST.out rfl) h)
              have HN1 := Lib.hid (fun h => stays_back (ks := ks) (j := j) (HST.out rfl) h)
              have HEL := Lib.hid (show (ks.eraseIdx j).length + 1 = ks.length by rw [List.length_eraseIdx_of_lt hjl]; omega)
              have hsm := fun Y (A5 : Option Addr) (c5 : Nat) (h1 : Own Y 0 Y.heap.size A (flat ks)) (h2 : Own Y 0 Y.heap.size A5 (flat (ks.eraseIdx j))) =>
                specsame_any A A5 c c5 ks (ks.eraseIdx j) Y h1 h2 (by omega) (by have := HEL.out; omega) (fun r hr => by have := rules_short hrv r hr; omega) (fun r hr => by have := rules_short hrv2 r hr; omega)
              obtain ⟨q, hq⟩ : ∃ q, sameV ks (ks.eraseIdx j) = q := ⟨_, rfl⟩
              rw [hq] at hsm HY1 HN1
              obtain ⟨fs, hfs⟩ : ∃ fs, ks.eraseIdx j = fs := ⟨_, rfl⟩
              rw [hfs] at hwo hsm HY1 HEL hrv2
              have HWO := Lib.hid hwo
              have HSM := Lib.hid hsm
              have HRV3 := Lib.hid hrv2
              rw [hi]
              clear hwo hsm hrv2 hrv hq hfs hi hk0
              have hoX := HK2.out.own.less (Nat.zero_le _)
              go_wp2_with fail
              refine (HWO.out X hoX).mono ?_
              rintro e x1 ⟨A5, c5, rfl, hkp5, hb5⟩
              go_wp2_with fail
              refine (HSM.out x1 A5 c5 (hoX.past hb5) (hkp5.own.less (Nat.zero_le _))).mono ?_
              rintro e x2 ⟨rfl, hb6⟩
              have hbX2 : Below X.heap.size X x2 := hb5.trans (hb6.mono hb5.size)
              have HB2 := Lib.hid (HBX.out.trans (hbX2.mono hxz))
              have HK3 := Lib.hid (HK2.out.keep hbX2)
              have hoX2 := hoX.past hbX2
              have hx2z := HB2.out.size
              clear hkp5 hb5 hb6 hbX2 hoX
              cases q with
              | false =>
                have HNN := Lib.hid (HN1.out rfl)
                clear hoX2
                go_wp2
                go_roundw
                case rel => exact ⟨ks, A, c, false, j, rfl, rfl, rfl, by omega, fun _ => ⟨by omega, HLEQ.out⟩, (fun h => by cases h), Lib.hid (fun _ => HNN.out), HT2, HRV2.out, HK3.out, HB2.out⟩
                case measure => simp [intOf]
              | true =>
                have HYY := Lib.hid (HY1.out rfl)
                go_wp2_with fail
                refine (HWO.out x2 hoX2).mono ?_
                rintro e x3 ⟨A7, c7, rfl, hkp7, hb7⟩
                have HB3 := Lib.hid (HB2.out.trans (hb7.mono hx2z))
                have HK7 := Lib.hid (show KeptU x3 w.heap.size A7 c7 fs from ⟨hkp7.1, hkp7.2.imp id (fun ⟨g, h1, h2, h3, h4⟩ => ⟨g, h1, by omega, h3, h4⟩)⟩)
                clear hkp7 hb7 hoX2
                go_wp2
                go_roundw
                case rel => exact ⟨fs, A7, c7, true, j, rfl, rfl, rfl, by omega, (fun h => by cases h), fun _ => by have := HEL.out; have := HLEQ.out; omega, Lib.hid (fun h => by cases h), Lib.hid (by rw [← HYY.out]; exact HT2.out), HRV3.out, HK7.out, HB3.out⟩
                case measure => simp [intOf]
  · have hv' : rulesB rs = false := by simpa using hv
    rw [hv'] at hva
    have HVA := Lib.hid hva
    have HR := Lib.hid (show trimQ rs = [] by rw [trimQ, if_neg hv])
    clear hva hv hv'
    go_enter Tryd.func31, Tryd.ntmps31
    go_wp2_with fail
    refine HVA.out.mono ?_
    rintro e w1 ⟨rfl, n1, hw1⟩
    have hb1 : Below w.heap.size w w1 := by rw [hw1]; exact below_drewN (Below.refl _ _) n1
    clear hw1
    go_wp2
    go_ret
    exact TrimPostU.none HR.out hb1
end Go.Proofs.YtphfolmhlcmbjaaDoor
