/- impl.PeopleOf, impl.LoopsOf. No condition. -/
import Derived.Test.YtldbefmiabgkhabTh
namespace Go.Proofs.Ytldbefmiabgkhab
open Go.RowKit
open Go.Maps

set_option maxRecDepth 100000 in
set_option maxHeartbeats 8000000 in
theorem impPeopleOf_any (A : Option Addr) (c : Nat) (rs : List (List Int)) (name : Int) (V : List Int) (w : World) (hr : Grid w 0 w.heap.size A rs) (hs : ∀ r ∈ rs, r.length ≤ 1000000000) (hV : PeoV rs name V) :
    Calls Try.prog 11 #[.slice A rs.length c, .int .i64 name] w (iRes w V) := by
  have HVV := Lib.hid hV
  obtain ⟨W, hW⟩ : ∃ W, w.alloc (.cells #[.slice A rs.length c] 22) = W := ⟨_, rfl⟩
  have hbW : Below w.heap.size w W := by rw [← hW]; exact (Below.refl _ _).alloc (Nat.le_refl _) _
  have hcW : W.cell? ⟨w.heap.size, 0, none⟩ = some (.slice A rs.length c) := by rw [← hW, World.cell?_alloc_at _ _ _ _ rfl]; rfl
  have hzW : W.heap.size = w.heap.size + 1 := by rw [← hW]; simp
  have HGV := Lib.hid (impValidGroups_any A c rs W ((hr.below hbW).more hbW.size) hs)
  have HZW := Lib.hid hzW
  have HBW := Lib.hid hbW
  have HR := Lib.hid hr
  have HCW := Lib.hid hcW
  clear hV hs hzW hbW hr
  by_cases hg : groupsB rs = true
  · rw [hg] at HGV
    by_cases h0 : name < 0
    · have t0 : decide (name < 0) = true := decide_eq_true h0
      have HE := Lib.hid (show V = [] by
        rcases HVV.out with h | ⟨_, h, _⟩
        · exact h.2
        · rw [inR_iff] at h; omega)
      clear h0
      go_enter Try.func11, Try.ntmps11
      go_wp2_with (go_at_call 21; (with_reducible refine HGV.out.mono ?_); rintro e w' ⟨rfl, rfl⟩)
      go_ret
      exact iRes.none HE.out HBW.out
    · have t0 : decide (name < 0) = false := decide_eq_false h0
      by_cases h9 : 9 ≤ name
      · have t9 : decide (9 ≤ name) = true := decide_eq_true h9
        have HE := Lib.hid (show V = [] by
          rcases HVV.out with h | ⟨_, h, _⟩
          · exact h.2
          · rw [inR_iff] at h; omega)
        clear h0 h9
        go_enter Try.func11, Try.ntmps11
        go_wp2_with (go_at_call 21; (with_reducible refine HGV.out.mono ?_); rintro e w' ⟨rfl, rfl⟩)
        go_ret
        exact iRes.none HE.out HBW.out
      · have t9 : decide (9 ≤ name) = false := decide_eq_false h9
        have hir : inR name 0 8 = true := inR_iff.2 (by omega)
        obtain ⟨p, hp, hVe⟩ : ∃ p : Nat → Bool, (∀ x : Nat, p x = true ↔ Rc rs (· = name) x) ∧ V = upL (peo rs.length p) 9 := by
          rcases HVV.out with ⟨h, _⟩ | ⟨_, _, h⟩
          · rw [hg, hir] at h; cases h
          · exact h
        have HP := Lib.hid (show ∀ x : Nat, x < 9 → (p x = true ↔ Rc rs (· ∈ [name]) x) from fun x _ => by
          rw [hp]
          have : (fun y => y = name) = (fun y => y ∈ [name]) := by funext y; simp
          rw [this])
        have HVE := Lib.hid hVe
        have HG := Lib.hid hg
        have HN := Lib.hid (And.intro (show 0 ≤ name by omega) (show name ≤ 8 by omega))
        obtain ⟨T, hT⟩ : ∃ T, upL p 9 = T := ⟨_, rfl⟩
        have HTT := Lib.hid hT
        have hTl : T.length ≤ 9 := by rw [← hT]; exact upL_len p 9
        have hT0 : 0 < T.length := List.length_pos_of_mem (a := name) (by
          rw [← hT, mem_upL]
          exact ⟨name.toNat, by omega, by rw [hp, show ((name.toNat : Nat) : Int) = name by omega]; exact .base rfl, by omega⟩)
        obtain ⟨U, hU⟩ : ∃ U, W.alloc (.cells #[.int .i64 name] 3) = U := ⟨_, rfl⟩
        have hbU : Below W.heap.size W U := by rw [← hU]; exact (Below.refl _ _).alloc (Nat.le_refl _) _
        have hrowU : Ints U U.heap.size (some ⟨W.heap.size, 0, none⟩) [name] := by
          have h1 := own_of_rowS (by decide) (one_rowD W name)
          rw [hU] at h1
          exact h1.row
        have HRB := Lib.hid (reachedBy_any A (some ⟨W.heap.size, 0, none⟩) c 1 rs [name] p U (((HR.out.below HBW.out).more (HBW.out.size)).below hbU |>.more hbU.size) hrowU hg (by simp) (by simp; omega) HP.out)
        rw [hT] at HRB
        have HBU := Lib.hid hbU
        have HUS := Lib.hid (show U.heap.size = W.heap.size + 1 by rw [← hU]; simp)
        clear hir hp hVe hg h0 h9 hT hbU hrowU
        go_enter Try.func11, Try.ntmps11
        go_wp2_with (go_at_call 21; (with_reducible refine HGV.out.mono ?_); rintro e w' ⟨rfl, rfl⟩)
        clear hU
        refine HRB.out.mono ?_
        rintro e w3 ⟨A1, c1, rfl, hc1, ho1, hb1⟩
        obtain ⟨g, o, rfl, hg1, hg2, _, _⟩ := ho1.open' (by omega) (by simp; omega)
        have hbp3 := (hb1.cell (p := ⟨w.heap.size, 0, none⟩) (by have := HUS.out; have := HZW.out; simp only []; omega)).trans ((HBU.out.cell (p := ⟨w.heap.size, 0, none⟩) (by have := HZW.out; simp only []; omega)).trans HCW.out)
        have HDL := Lib.hid (deleteGroup_any w.heap.size A rs.length c g o c1 T U.heap.size w3 hbp3 (by have := HUS.out; have := HZW.out; omega) ho1 hT0 (by omega) hc1)
        rw [show T.filter (qP rs.length) = V by rw [HVE.out, ← HTT.out]; exact peo_filter rs.length p 9] at HDL
        have HB3 := Lib.hid hb1
        have HC1 := Lib.hid (show V.length ≤ c1 by
          rw [HVE.out]
          have h1 := List.length_filter_le (fun z => !decide (z < (rs.length : Int))) (upL p 9)
          rw [peo_filter, HTT.out] at h1; omega)
        clear ho1 hb1 hbp3 hc1 hg1 hg2
        go_wp2_with fail
        refine HDL.out.mono ?_
        rintro e w4 ⟨m, hm, rfl, ho4, hb4⟩
        have HE := Lib.hid (show iRes w V (.returned (.slice (some ⟨g, o, none⟩) m c1)) w4 by
          rw [hm]
          exact ⟨_, c1, rfl, HC1.out, ho4.less (by have := HUS.out; have := HZW.out; omega), HBW.out.trans ((HBU.out.mono HBW.out.size).trans (HB3.out.mono (by have := HUS.out; have := HZW.out; omega) |>.trans (hb4.mono (by have := HUS.out; have := HZW.out; omega))))⟩)
        clear ho4 hb4 hm
        go_wp2_with fail
        go_ret
        exact HE.out
  · have hg' : groupsB rs = false := by simpa using hg
    rw [hg'] at HGV
    have HE := Lib.hid (show V = [] by
      rcases HVV.out with h | ⟨h, _⟩
      · exact h.2
      · rw [hg'] at h; cases h)
    clear hg hg'
    go_enter Try.func11, Try.ntmps11
    go_wp2_with (go_at_call 21; (with_reducible refine HGV.out.mono ?_); rintro e w' ⟨rfl, rfl⟩)
    go_ret
    exact iRes.none HE.out HBW.out

set_option maxRecDepth 100000 in
set_option maxHeartbeats 8000000 in
theorem impLoopsOf_any (A : Option Addr) (c : Nat) (rs : List (List Int)) (V : List Int) (w : World) (hr : Grid w 0 w.heap.size A rs) (hs : ∀ r ∈ rs, r.length ≤ 1000000000) (hV : LooV rs V) :
    Calls Try.prog 18 #[.slice A rs.length c] w (iRes w V) := by
  obtain ⟨i0, hi0, hz0, hz1, hz2⟩ := info_parts Try.infoD
  have H := Lib.hid (impValidGroups_any A c rs w hr hs)
  have HR := Lib.hid hr
  rcases hV with ⟨hv, rfl⟩ | ⟨hv, p, hp, rfl⟩
  · rw [hv] at H
    clear hv hs
    go_enter Try.func18, Try.ntmps18
    go_wp2_with (go_at_call 21; (with_reducible refine H.out.mono ?_); rintro e w' ⟨rfl, rfl⟩)
    go_ret
    exact iRes.none rfl (Below.refl _ _)
  · have HG := Lib.hid hv
    have HP := Lib.hid hp
    have hl5 := (gr_of hv).n5
    rw [hv] at H
    clear hv hs hp
    go_enter Try.func18, Try.ntmps18
    go_wp2_with (go_at_call 21; (with_reducible refine H.out.mono ?_); rintro e w' ⟨rfl, rfl⟩)
    clear H
    go_loopw [3, 11] (fun v x wr => ∃ (x' m c' : Nat) (H3 : Option Addr) (T : List Int), x' ≤ rs.length ∧ x = .int .i64 x' ∧ v = .slice H3 m c' ∧ m ≤ 9 ∧ Hid (m = T.length ∧ T = upL p x') ∧ wr.ownsRow w.heap.size 3 1 (.slice H3 m c') m (T.map (Value.int .i64)) ∧ Below w.heap.size w wr) (fun _ x _ => rs.length - (intOf x).toNat)
    case atStart => exact ⟨0, 0, _, _, [], by omega, rfl, rfl, by omega, Lib.hid ⟨rfl, rfl⟩, World.ownsRow_nil _ _ _ _, Below.refl _ _⟩
    case round =>
      obtain ⟨x, m, cT, H3, T, hx, rfl, rfl, hm9, HT, hown, hbr⟩ := hrel
      have HO := Lib.hid hown
      have HBR := Lib.hid hbr
      have hbz := hbr.size
      by_cases hlx : x < rs.length
      · have hxI : (x : Int) < (rs.length : Int) := by omega
        obtain ⟨bb, o, R, c1, rfl, hb0, hcell, hc1, ho⟩ := (HR.out.below hbr).open hlx
        obtain ⟨q, hq⟩ := rc_bool rs (· ∈ rs[x])
        have hm4 := (gr_of HG.out).m4 x hlx
        have HRB := Lib.hid (reachedBy_any _ R c c1 rs rs[x] q wr ((HR.out.below hbr).more hbz) (ho.row.more hbz) HG.out (by omega) ((gr_of HG.out).lo x hlx) (fun y _ => hq y))
        have HPX := Lib.hid (show p x = true ↔ (x : Int) ∈ upL q 9 by
          rw [HP.out x hlx, getD_row hlx, mem_upL]
          constructor
          · intro h; exact ⟨x, by omega, (hq x).2 h, rfl⟩
          · rintro ⟨k, _, h2, h3⟩
            have : x = k := by omega
            subst this
            exact (hq x).1 h2)
        obtain ⟨r, hre⟩ : ∃ r, rs[x] = r := ⟨_, rfl⟩
        rw [hre] at hcell hm4 HRB
        obtain ⟨S, hS⟩ : ∃ S, upL q 9 = S := ⟨_, rfl⟩
        have hSl : S.length ≤ 9 := by rw [← hS]; exact upL_len q 9
        rw [hS] at HRB HPX
        clear hq hre hS hown hbr ho hc1
        go_wp2_with fail
        refine HRB.out.mono ?_
        rintro e w2 ⟨A2, c2, rfl, hc2, ho2, hb2⟩
        have HC := Lib.hid (containsI_any A2 c2 S (x : Int) _ w2 ho2.row (by omega))
        have hs2 := hb2.size
        have HO2 := Lib.hid (own_keepR HO.out hb2)
        have HB2 := Lib.hid (HBR.out.trans (hb2.mono hbz))
        have hbz2 : w.heap.size ≤ w2.heap.size := by omega
        clear hb2 ho2 hc2
        by_cases hxS : (x : Int) ∈ S
        · rw [decide_eq_true hxS] at HC
          have HE := Lib.hid (upL_yes (HPX.out.2 hxS))
          have hm8 : m + 1 ≤ 9 := by
            have h1 := HT.out
            have h2 := upL_len p (x + 1)
            rw [HE.out, ← h1.2, List.length_append, ← h1.1] at h2
            simp at h2; omega
          clear hxS hcell
          go_wp2_with (first | (go_at_call 35; (with_reducible refine HC.out.mono ?_); rintro e w' ⟨rfl, rfl⟩) | (at_builtin; refine wpList_push rfl (.tmp 21) (.tmp 23) 24 rfl i0 (.int .i64 0) 8 Try.underlying24 hi0 hz0 hz1 hz2 rfl (by decide) _ _ rfl HO2.out [.int .i64 (x : Int)] rfl rfl (by simp [Value.oneCell']) (by omega) (by omega) hbz2 ?_))
          intro H' c' w6 hown6 hg6
          have HW := Lib.hid (And.intro hown6 (HB2.out.grown hg6 hbz2 (fun i hi => (HO2.out.lt _ hi).1)))
          clear hown6 hg6
          go_wp2
          go_roundw
          case rel => exact ⟨x + 1, m + 1, c', H', T ++ [(x : Int)], by omega, by go_num, rfl, hm8, Lib.hid ⟨by rw [List.length_append, ← HT.out.1]; rfl, by rw [HE.out, HT.out.2]⟩, by rw [List.map_append]; exact HW.out.1, HW.out.2⟩
          case measure => simp [intOf]; omega
        · rw [decide_eq_false hxS] at HC
          have HE := Lib.hid (upL_no (p := p) (m := x) (by rw [Bool.eq_false_iff]; exact fun h => hxS (HPX.out.1 h)))
          clear hxS hcell
          go_wp2_with (go_at_call 35; (with_reducible refine HC.out.mono ?_); rintro e w' ⟨rfl, rfl⟩)
          go_roundw
          case rel => exact ⟨x + 1, m, cT, H3, T, by omega, by go_num, rfl, hm9, Lib.hid ⟨HT.out.1, by rw [HE.out, HT.out.2]⟩, HO2.out, HB2.out⟩
          case measure => simp [intOf]; omega
      · have hxe : x = rs.length := by omega
        subst hxe
        have HF := Lib.hid (show iRes w (upL p rs.length) (.returned (.slice H3 m cT)) wr by rw [← HT.out.2]; exact iRes_row HO.out HT.out.1 HBR.out)
        clear hown hbr
        go_wp2
        go_ret
        exact HF.out
end Go.Proofs.Ytldbefmiabgkhab
