/- TrimRoutes: spec. No condition. -/
import Derived.Test.YtlmcclbikljbhaaQ18
import Derived.Test.YtlmcclbikljbhaaDr
namespace Go.Proofs.Ytlmcclbikljbhaa
open Go.RowKit

theorem firstQ (W : World) (base : Nat) (h : base ≤ W.heap.size) : (W.alloc (.cells #[] 38)).ownsRow base 38 2 (.slice (some ⟨W.heap.size, 0, none⟩) 0 0) 0 [] :=
  World.ownsRow_lit W #[] 0 h (by simp [maxLen]) rfl

set_option maxRecDepth 100000 in
set_option maxHeartbeats 8000000 in
theorem specTrim_any (A : Option Addr) (c : Nat) (rs : List (ByteArray × Int)) (w : World) (hr : Own w 0 w.heap.size A (flat rs)) (hl : rs.length ≤ 1048576) (hs : ∀ r ∈ rs, r.1.size ≤ 1048576) :
    Calls Try.prog 28 #[.slice A rs.length c] w (TrimPost (trimV rs) w) := by
  obtain ⟨i0, hi0, hz0, hz1, hz2⟩ := info_parts Try.infoQ
  have hv := specValidRoutes_any A c rs w hr (by omega) (fun r h => Nat.le_trans (hs r h) (by omega))
  clear hs
  by_cases hB : routesB rs = true
  · rw [hB] at hv
    have HV := Lib.hid hv
    have HB := Lib.hid hB
    have HTV := Lib.hid (show trimV rs = tr rs by rw [trimV, if_pos hB])
    have h8 := routes_small hB
    clear hv hB
    go_enter Try.func28, Try.ntmps28
    go_wp2_with fail
    refine HV.out.mono ?_
    rintro e w0 ⟨rfl, n0, hw0⟩
    have hb0 : Below w.heap.size w w0 := by rw [hw0]; exact below_drewN (Below.refl _ _) n0
    have hz0' := hb0.size
    have hown0 := firstQ w0 w0.heap.size (Nat.le_refl _)
    have hor := (hr.past hb0).below ((Below.refl _ _).alloc (Nat.le_refl _) (.cells #[] 38))
    have HON := Lib.hid (flat_ones rs)
    have HB0 := Lib.hid hb0
    clear hw0 hb0
    go_wp2_with (at_builtin; refine wpList_extend rfl (.tmp 9) (.tmp 10) 31 rfl i0 (.agg #[.string ⟨#[]⟩, .int .i64 0]) 24 Try.underlying31 hi0 hz0 hz1 hz2 rfl (by decide) _ _ rfl hown0 _ _ _ _ (flat rs) rfl (by rw [flat_length]; omega) hor HON.out (by omega) (by omega) (by simp) ?_)
    intro A6 c6 w6 hown6 hg6
    have hg56 : w0.grownBy w6 none := g_new (World.grownBy_alloc w0 _ none) hg6 (fun i hi => (hown0.lt _ hi).1)
    try simp only [Nat.zero_add]
    have HK6 := Lib.hid (And.intro (kept_of_row (ks := rs) (by simpa using hown6) rfl) (HB0.out.trans ((below_g hg56 (Nat.le_refl _)).mono hz0')))
    clear hown0 hor hown6 hg6 hg56
    go_wp2
    go_loopw [3, 4] (fun v a wr => ∃ (ks : List (ByteArray × Int)) (A : Option Addr) (c : Nat) (b : Bool), v = .slice A ks.length c ∧ a = .bool b ∧ ks.length ≤ 8 ∧ Hid (b = false → firstN ks = none) ∧ Hid (routesB ks = true) ∧ Hid (tr rs = tr ks) ∧ Kept wr w0.heap.size A c ks ∧ Below w.heap.size w wr) (fun v a _ => (match v with | .slice _ n _ => 2 * n | _ => 0) + (match a with | .bool true => 1 | _ => 0))
    case atStart => exact ⟨rs, A6, c6, true, rfl, rfl, h8, Lib.hid (fun h => by cases h), HB, Lib.hid rfl, HK6.out.1, HK6.out.2⟩
    case round =>
      obtain ⟨ks0, A0, c0, b, rfl, rfl, hk8, HF, HR, HT, hkept, hbr⟩ := hrel
      clear HK6
      have HK := Lib.hid hkept
      have HBR := Lib.hid hbr
      have hbz := hbr.size
      clear hkept hbr
      cases b with
      | false =>
        have HV2 := Lib.hid (show trimV rs = ks0 by rw [HTV.out, HT.out, tr_none (HF.out rfl)])
        go_wp2
        go_ret
        rw [HV2.out]
        exact ⟨A0, c0, rfl, HK.out.1.1, HK.out.own.less (by omega), HBR.out⟩
      | true =>
        clear HF
        go_wp2
        go_loopw [3, 4, 5] (fun v a x wx => ∃ (ks : List (ByteArray × Int)) (A : Option Addr) (c : Nat) (b : Bool) (i : Nat), v = .slice A ks.length c ∧ a = .bool b ∧ x = .int .i64 i ∧ ks.length ≤ 8 ∧ i ≤ 9 ∧ ks.length + b.toNat ≤ ks0.length ∧ i ≤ ks.length + b.toNat ∧ Hid (b = false → ∀ j, j < i → idleI ks j = false) ∧ Hid (routesB ks = true) ∧ Hid (tr rs = tr ks) ∧ Kept wx w0.heap.size A c ks ∧ Below w.heap.size w wx) (fun v _ x _ => (match v with | .slice _ n _ => n + 1 | _ => 0) - (intOf x).toNat)
        case atStart => exact ⟨ks0, A0, c0, false, 0, rfl, rfl, rfl, hk8, by omega, by simp, by omega, Lib.hid (fun _ j hj => by omega), HR, HT, HK.out, HBR.out⟩
        case round =>
          clear HK HR HT
          obtain ⟨ks, A, c, b, i, rfl, rfl, rfl, hks8, hi9, hkb, hib, HI, HR, HT, hkept, hbx⟩ := hrel
          have HK := Lib.hid hkept
          have HBX := Lib.hid hbx
          have hxz := hbx.size
          obtain ⟨X, hX⟩ : ∃ X : World, X = wr := ⟨_, rfl⟩
          clear hkept hbx
          cases b with
          | true =>
            simp only [Bool.toNat_true] at hkb hib
            by_cases hlt : i < ks.length
            · have hd : decide (i < ks.length) = true := decide_eq_true hlt
              clear hX
              go_wp2
              go_roundw
              case rel => exact ⟨ks, A, c, true, rfl, rfl, by omega, Lib.hid (fun h => by cases h), HR, HT, HK.out, HBX.out⟩
              case measure => simp; omega
            · have hd : decide (i < ks.length) = false := decide_eq_false hlt
              clear hX
              go_wp2
              go_roundw
              case rel => exact ⟨ks, A, c, true, rfl, rfl, by omega, Lib.hid (fun h => by cases h), HR, HT, HK.out, HBX.out⟩
              case measure => simp; omega
          | false =>
            simp only [Bool.toNat_false, Nat.add_zero] at hkb hib
            by_cases hlt : i < ks.length
            · have hid := idle_any A c i ks X (by rw [hX]; exact HK.out.own.row) (by omega) (Short.le HR.out) hlt
              rw [idle_same HR.out hlt, hX] at hid
              obtain ⟨q, hq⟩ : ∃ q, idleI ks i = q := ⟨_, rfl⟩
              rw [hq] at hid
              have HID := Lib.hid hid
              have HQ := Lib.hid hq
              have hd : decide (i < ks.length) = true := decide_eq_true hlt
              clear hid hq hX
              cases q with
              | false =>
                go_wp2_with fail
                refine HID.out.mono ?_
                rintro e w5 ⟨rfl, n5, hw5⟩
                have hb5 : Below wr.heap.size wr w5 := by rw [hw5]; exact below_drewN (Below.refl _ _) n5
                have HF5 := Lib.hid (And.intro (HK.out.keep hb5) (HBX.out.trans (hb5.mono hxz)))
                clear hw5 hb5 hd
                go_wp2
                go_roundw
                case rel =>
                  refine ⟨ks, A, c, false, i + 1, rfl, rfl, by go_num, by omega, by omega, by simpa using hkb, by simp; omega, Lib.hid (fun _ j hj => ?_), HR, HT, HF5.out.1, HF5.out.2⟩
                  by_cases hji : j = i
                  · subst hji; exact HQ.out
                  · exact HI.out (by simp) j (by omega)
                case measure => simp [intOf]; omega
              | true =>
                go_wp2_with fail
                refine HID.out.mono ?_
                rintro e w1 ⟨rfl, n5, hw5⟩
                have hb5 : Below wr.heap.size wr w1 := by rw [hw5]; exact below_drewN (Below.refl _ _) n5
                have hk1 := HK.out.keep hb5
                have hb1 := HBX.out.trans (hb5.mono hxz)
                clear hw5 hb5 hd
                obtain ⟨g, rfl, hg1, hg2, hg3⟩ : ∃ g, A = some ⟨g, 0, none⟩ ∧ w0.heap.size ≤ g ∧ g < w1.heap.size ∧ Own w1 (g + 1) (g + 1) (some ⟨g, 0, none⟩) (flat ks) := by
                  rcases hk1.2 with h | h
                  · rw [h] at hlt; simp at hlt
                  · exact h
                have hkc := hk1.1.1
                have hn4 : ∀ j, j < i → idleI ks j = false := HI.out (by simp)
                have HT2 := Lib.hid (show tr rs = tr (ks.eraseIdx i) by rw [HT.out, tr_some (firstN_some hlt HQ.out hn4)])
                have HR2 := Lib.hid (routesB_erase HR.out i)
                have hel : (ks.eraseIdx i).length + 1 = ks.length := by rw [List.length_eraseIdx_of_lt hlt]; omega
                have HEL := Lib.hid hel
                have hu := slice_uptoQ g 0 ks.length c i (by omega)
                obtain ⟨oo, hfrom, hoo⟩ := slice_fromQ g ks.length c (i + 1) (by omega) hkc
                have hcast : ((i + 1 : Nat) : Int) = (i : Int) + 1 := by push_cast; rfl
                rw [hcast] at hfrom
                have hiw : IntKind.i64.wrap ((i : Int) + 1) = (i : Int) + 1 := IntWalk.i64_in _ (by omega)
                have h1 : Own w1 0 w1.heap.size (some ⟨g, 0, none⟩) (flat (ks.take i)) := by rw [← flat_take]; exact ((hg3.more (by omega)).less (by omega)).take _
                have h2 : Own w1 0 w1.heap.size (some ⟨g, oo, none⟩) (flat (ks.drop (i + 1))) := by
                  by_cases hjj : i + 1 < ks.length
                  · rw [hoo hjj, ← flat_drop, show (i + 1) * 2 = 0 + 2 * (i + 1) by omega]
                    exact ((hg3.more (by omega)).less (by omega)).drop _
                  · exact .inl (by rw [List.drop_of_length_le (by omega)]; rfl)
                have HS1 := Lib.hid h1
                have HS2 := Lib.hid h2
                have HB1 := Lib.hid hb1
                have hz1w := hb1.size
                have hw01 : w0.heap.size ≤ w1.heap.size := by omega
                have HFLE := Lib.hid (show flat (ks.take i) ++ flat (ks.drop (i + 1)) = flat (ks.eraseIdx i) by rw [erase_flat, flat_take, flat_drop])
                have hel2 : i + (ks.length - (i + 1)) = (ks.eraseIdx i).length := by omega
                have HEL2 := Lib.hid hel2
                clear h1 h2 hn4 hel hel2 hcast hoo hg3 hk1 hb1 hg2
                go_wp2
                go_region_law (first
                  | (refine step_extend (w := w1.drew.alloc (.cells #[] 38)) (by rfl) (.tmp 26) (.tmp 29) 31 (by rfl) i0 (.agg #[.string ⟨#[]⟩, .int .i64 0]) 24 Try.underlying31 hi0 hz0 hz1 hz2 rfl (by decide) _ _ (by rfl) (firstQ w1.drew w1.heap.size (Nat.le_refl _)) _ _ _ _ (flat (ks.take i)) (by rfl) (by rw [flat_length, List.length_take]; omega) (HS1.out.grownN (Nat.le_refl _) (g_alloc (g_drew (World.grownBy.refl w1 none)) _)) (flat_ones _) (by omega) (by omega) (g_alloc (g_drew (World.grownBy.refl w1 none)) _).size ?_; intro A2 c2 w2 hown2 hg2; have hgA : w1.grownBy w2 none := g_new (g_alloc (g_drew (World.grownBy.refl w1 none)) _) hg2 (fun j hj => ((firstQ w1.drew w1.heap.size (Nat.le_refl _)).lt _ hj).1); have hown2' : w2.ownsRow w1.heap.size 38 2 (.slice A2 i c2) i (flat (ks.take i)) := (by simpa using hown2))
                  | (refine step_extend (by rfl) (.tmp 30) (.tmp 34) 31 (by rfl) i0 (.agg #[.string ⟨#[]⟩, .int .i64 0]) 24 Try.underlying31 hi0 hz0 hz1 hz2 rfl (by decide) _ _ (by rfl) hown2' _ _ _ _ (flat (ks.drop (i + 1))) (by rfl) (by rw [flat_length, List.length_drop]; omega) (HS2.out.grownN (Nat.le_refl _) hgA) (flat_ones _) (by omega) (by omega) hgA.size ?_; intro A3 c3 w3 hown3 hg3; have hgB : w1.grownBy w3 none := g_new hgA hg3 (fun j hj => (hown2'.lt _ hj).1)))
                all_goals
                  have hgC := below_g hgB (Nat.le_refl _)
                  rw [HFLE.out] at hown3
                  rw [HEL2.out] at hown3 ⊢
                  have HK3 := Lib.hid (And.intro (kept_of_row (own_base hown3 hw01) rfl) (HB1.out.trans (hgC.mono hz1w)))
                  clear hown3 hg3 hgB hg2 hown2 hown2' hgA hgC hu hfrom hiw
                  go_simp
                  go_wp2
                  go_roundw
                  case rel => exact ⟨ks.eraseIdx i, A3, c3, true, i + 1, rfl, rfl, by go_num, by have := HEL.out; omega, by omega, by have := HEL.out; simp; omega, by have := HEL.out; simp; omega, Lib.hid (fun h => by cases h), HR2, HT2, HK3.out.1, HK3.out.2⟩
                  case measure => have := HEL.out; simp [intOf]; omega
            · have hd : decide (i < ks.length) = false := decide_eq_false hlt
              have hn : firstN ks = none := firstN_none (fun j hj => HI.out (by simp) j (by omega))
              have HN := Lib.hid hn
              clear hX hn
              go_wp2
              go_roundw
              case rel => exact ⟨ks, A, c, false, rfl, rfl, by omega, Lib.hid (fun _ => HN.out), HR, HT, HK.out, HBX.out⟩
              case measure => simp; omega
  · have hB' : routesB rs = false := by simpa using hB
    rw [hB'] at hv
    have HV := Lib.hid hv
    have HTV := Lib.hid (show trimV rs = [] by rw [trimV, if_neg hB])
    clear hv hB hB'
    go_enter Try.func28, Try.ntmps28
    go_wp2_with fail
    refine HV.out.mono ?_
    rintro e w1 ⟨rfl, n1, hw1⟩
    have hb1 : Below w.heap.size w w1 := by rw [hw1]; exact below_drewN (Below.refl _ _) n1
    clear hw1
    go_wp2
    go_ret
    exact TrimPost.none HTV.out hb1
end Go.Proofs.Ytlmcclbikljbhaa
