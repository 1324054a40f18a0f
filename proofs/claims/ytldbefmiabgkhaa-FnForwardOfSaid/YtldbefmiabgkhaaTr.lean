/- Draws of answers. No condition. -/
import Derived.Test.YtldbefmiabgkhaaT5
import Derived.Test.YtldbefmiabgkhaaRd2
import Derived.Test.YtldbefmiabgkhaaH6
import Derived.Test.YtldbefmiabgkhaaTl
namespace Go.Proofs.Ytldbefmiabgkhaa
open Go.RowKit

/-- What is drawn. -/
def DrA (w : World) (A : Option Addr) (c : Nat) (zs : List Int) (w' : World) : Prop :=
  zs.length ≤ 10 ∧ zs.length ≤ c ∧ Ints w' w'.heap.size A zs ∧ Below w.heap.size w w'
def DrRes (w : World) (e : Ending) (w' : World) : Prop := ∃ (A : Option Addr) (c : Nat) (qs : List Int), e = .returned (.slice A qs.length c) ∧ DrA w A c qs w'

set_option maxRecDepth 100000 in
set_option maxHeartbeats 4000000 in
theorem drawReadOrder_any (A : Option Addr) (c : Nat) (zs : List Int) (w : World) (hr : Own w 0 w.heap.size A (zs.map (Value.int .u8))) (hx : zs.length ≤ c ∧ c ≤ maxLen ∧ ∀ z ∈ zs, (Lit.int .u8 z).wf = true) :
    Calls Try.prog 30 #[.slice A zs.length c] w (DrRes w) := by
  have H := Lib.hid hx
  obtain ⟨i0, hi0, hz0, hz1, hz2⟩ := info_parts Try.infoD
  clear hx
  go_enter Try.func30, Try.ntmps30
  go_wp2_with fail
  refine (newReader_any _ _ _ _ hr H.out).mono ?_
  rintro e w1 ⟨rfl, hrd, hb1⟩
  clear hr
  obtain ⟨g, hg⟩ : ∃ g, w.heap.size = g := ⟨_, rfl⟩
  have s1 := hb1.size
  have hrd0 : Rd w1 g 0 := by rw [← hg]; exact hrd
  rw [hg]
  have hgl := hrd0.lt
  have HG := Lib.hid hg
  have HB1 := Lib.hid hb1
  have hrda : Rd (w1.alloc (.cells #[] 3)) g 0 := hrd0.own (World.grownBy_alloc w1 _ none) (by simp)
  have HST := Lib.hid (first_litD w1)
  have HGA := Lib.hid (World.grownBy_alloc w1 (.cells #[] 3) (some g))
  rw [hg] at s1
  clear hg hb1 hrd hrd0
  go_wp2_with fail
  refine (one_at g 0 (w1.alloc (.cells #[] 3)) hrda (by omega) [6, 7, 5, 9, 4, 2, 1, 0, 10] (by decide) (by decide) 9 _ rfl (by simp) _ rfl).mono ?_
  rintro e w2 ⟨k, rfl, hk, hrd2, hg2⟩
  have hkb : 0 ≤ k ∧ k ≤ 10 := by simp at hk; omega
  obtain ⟨hk0, hk10⟩ := hkb
  have HB2 := Lib.hid (And.intro (HST.out.kept hg2 (own_ne HST.out hgl)) (And.intro hrd2 (grown_trans HGA.out hg2)))
  clear hk hrd2 hg2 HST HGA hrda
  go_wp2
  go_loopw [4] (fun v wr => ∃ (m c : Nat) (H : Option Addr) (qs : List Int), v = .slice H m c ∧ m ≤ k.toNat ∧ Hid (m = qs.length) ∧ wr.ownsRow w1.heap.size 3 1 (.slice H m c) m (qs.map (Value.int .i64)) ∧ Rd wr g (1 + 3 * m) ∧ w1.grownBy wr (some g)) (fun v _ => k.toNat - (match v with | .slice _ m _ => m | _ => 0))
  case atStart => exact ⟨0, _, _, [], rfl, by omega, Lib.hid rfl, HB2.out.1, HB2.out.2.1, HB2.out.2.2⟩
  case round =>
    clear HB2
    obtain ⟨m, cH, H, qs, rfl, hm, HM, hown, hrdr, hgr⟩ := hrel
    have hgz := hgr.size
    have hm10 : m ≤ 10 := by omega
    have HO := Lib.hid hown
    have HGR := Lib.hid hgr
    clear hown hgr
    by_cases hlt : (m : Int) < k
    · go_wp2_with fail
      refine (pick_any g _ _ _ hrdr (by omega) (by omega)).mono ?_
      rintro e w3 ⟨x, rfl, hx, hrd3, hg3⟩
      have hx0 := hx.1
      have hx1 := hx.2 (by omega)
      clear hx
      go_wp2_with fail
      refine (pick_any g _ _ _ hrd3 (by omega) (by omega)).mono ?_
      rintro e w4 ⟨y, rfl, hy, hrd4, hg4⟩
      have hy0 := hy.1
      have hy1 := hy.2 (by omega)
      clear hy
      go_wp2_with fail
      refine (one_lit g _ w4 hrd4 (by omega) [x - 1, y - 1, -1] (by simp) (by simp) 3 rfl _ rfl).mono ?_
      rintro e w5 ⟨z, rfl, hz, hrd5, hg5⟩
      clear hz
      have hg35 := grown_trans (grown_trans hg3 hg4) hg5
      have hown5 := HO.out.kept hg35 (own_ne HO.out hgl)
      have hgr5 := grown_trans HGR.out hg35
      clear hg3 hg4 hg5 hg35 hrd3 hrd4 hrdr hx0 hx1 hy0 hy1
      go_wp2_with (at_builtin; refine wpList_push rfl (.tmp 16) (.tmp 32) 27 rfl i0 (.int .i64 0) 8 Try.underlying27 hi0 hz0 hz1 hz2 rfl (by decide) _ _ rfl hown5 [.int .i64 z] rfl rfl (by simp [Value.oneCell']) (by omega) (by omega) hgr5.size ?_)
      intro H' c' w6 hown6 hg6
      have hrd6 := hrd5.own hg6 (fun i hi => by have := (hown5.lt _ hi).1; omega)
      have HW := Lib.hid (And.intro hown6 (And.intro hrd6 (grown_own hgr5 hg6 (fun i hi => (hown5.lt _ hi).1))))
      clear hown5 hgr5 hg6 hrd5 hown6 hrd6
      go_wp2
      go_roundw
      case rel => exact ⟨m + 1, c', H', qs ++ [z], rfl, by omega, Lib.hid (by rw [List.length_append, ← HM.out]; rfl), by rw [List.map_append]; exact HW.out.1, by rw [show 1 + 3 * (m + 1) = 1 + 3 * m + 1 + 1 + 1 by omega]; exact HW.out.2.1, HW.out.2.2⟩
      case measure => simp only []; omega
    · have hcap := own_cap HO.out
      by_cases h0 : m = 0
      · have hd : decide (0 < m) = false := decide_eq_false (by omega)
        have hd2 : decide ((0 : Int) < (m : Int)) = false := decide_eq_false (by omega)
        have HF := Lib.hid (show DrRes w (.returned (.slice H m cH)) wr from ⟨H, cH, qs, by rw [← HM.out], by rw [← HM.out]; omega, by rw [← HM.out]; exact hcap, (own_of_rowS (by decide) HO.out).row, by exact HB1.out.grown HGR.out (by have := HG.out; omega) (fun i hi => by injection hi with hi; have := HG.out; omega)⟩)
        clear h0
        go_wp2
        go_ret
        exact HF.out
      · have hpos : 0 < m := by omega
        have hd : decide (0 < m) = true := decide_eq_true hpos
        have hd2 : decide ((0 : Int) < (m : Int)) = true := decide_eq_true (by omega)
        clear h0
        go_wp2_with fail
        refine (pick_any g _ 30 _ hrdr (by omega) (by omega)).mono ?_
        rintro e w3 ⟨y, rfl, hy, hrd3, hg3⟩
        have hown3 := HO.out.kept hg3 (own_ne HO.out hgl)
        have hgr3 := grown_trans HGR.out hg3
        have H3 := Lib.hid (And.intro hown3 hgr3)
        clear hy hg3 hrdr hown3 hgr3
        by_cases hy0 : y = 0
        · subst hy0
          go_wp2_with fail
          refine (one_lit g _ w3 hrd3 (by omega) [0, -2] (by decide) (by decide) 2 rfl _ rfl).mono ?_
          rintro e w4 ⟨x, rfl, hx, hrd4, hg4⟩
          have hown4 := H3.out.1.kept hg4 (own_ne H3.out.1 hgl)
          have hgr4 := grown_trans H3.out.2 hg4
          obtain ⟨gH, rfl, hgH, hgH2⟩ := own_some hown4 hpos
          have hcy := hown4.cellAt 0 (by omega)
          have hfy := hown4.frozenAt 0
          obtain ⟨y0, hy0e⟩ : ∃ y0, (qs.map (Value.int .i64))[0]? = some y0 := ⟨_, List.getElem?_eq_getElem (by rw [List.length_map, ← HM.out]; exact hpos)⟩
          rw [hy0e] at hcy
          clear hy0e
          have hst := (hown4.stored 0 (.int .i64 x)).1
          rw [← List.map_set] at hst
          have hs4 := hgr4.size
          have HF := Lib.hid (show DrRes w (.returned (.slice (some ⟨gH, 0, none⟩) m cH)) (w4.setCell ⟨gH, 0, none⟩ (.int .i64 x)) from ⟨_, cH, qs.set 0 x, by rw [List.length_set, ← HM.out], by rw [List.length_set, ← HM.out]; omega, by rw [List.length_set, ← HM.out]; exact hcap, (own_of_rowS (by decide) hst).row, by exact (HB1.out.grown hgr4 (by have := HG.out; omega) (fun i hi => by injection hi with hi; have := HG.out; omega)).setCell (p := ⟨gH, 0, none⟩) (by have := HG.out; simp only []; omega) _⟩)
          clear hx hg4 hrd4 hrd3 hown4 hgr4 hst
          go_wp2
          go_ret
          exact HF.out
        · have hyy : (y == 0) = false := beq_eq_false_iff_ne.2 hy0
          have hs3 := H3.out.2.size
          have HF := Lib.hid (show DrRes w (.returned (.slice H m cH)) w3 from ⟨H, cH, qs, by rw [← HM.out], by rw [← HM.out]; omega, by rw [← HM.out]; exact hcap, (own_of_rowS (by decide) H3.out.1).row, by exact HB1.out.grown H3.out.2 (by have := HG.out; omega) (fun i hi => by injection hi with hi; have := HG.out; omega)⟩)
          clear hy0 hrd3
          go_wp2
          go_ret
          exact HF.out

set_option maxRecDepth 100000 in
set_option maxHeartbeats 4000000 in
theorem drawDepthsOf_any (A : Option Addr) (c : Nat) (zs : List Int) (w : World) (hr : Own w 0 w.heap.size A (zs.map (Value.int .u8))) (hx : zs.length ≤ c ∧ c ≤ maxLen ∧ ∀ z ∈ zs, (Lit.int .u8 z).wf = true) :
    Calls Try.prog 34 #[.slice A zs.length c] w (DrRes w) := by
  have H := Lib.hid hx
  obtain ⟨i0, hi0, hz0, hz1, hz2⟩ := info_parts Try.infoD
  clear hx
  go_enter Try.func34, Try.ntmps34
  go_wp2_with fail
  refine (newReader_any _ _ _ _ hr H.out).mono ?_
  rintro e w1 ⟨rfl, hrd, hb1⟩
  clear hr
  obtain ⟨g, hg⟩ : ∃ g, w.heap.size = g := ⟨_, rfl⟩
  have s1 := hb1.size
  have hrd0 : Rd w1 g 0 := by rw [← hg]; exact hrd
  rw [hg]
  have hgl := hrd0.lt
  have HG := Lib.hid hg
  have HB1 := Lib.hid hb1
  have hrda : Rd (w1.alloc (.cells #[] 3)) g 0 := hrd0.own (World.grownBy_alloc w1 _ none) (by simp)
  have HST := Lib.hid (first_litD w1)
  have HGA := Lib.hid (World.grownBy_alloc w1 (.cells #[] 3) (some g))
  rw [hg] at s1
  clear hg hb1 hrd hrd0
  go_wp2_with fail
  refine (one_at g 0 (w1.alloc (.cells #[] 3)) hrda (by omega) [6, 7, 5, 9, 4, 2, 1, 0, 10] (by decide) (by decide) 9 _ rfl (by simp) _ rfl).mono ?_
  rintro e w2 ⟨k, rfl, hk, hrd2, hg2⟩
  have hkb : 0 ≤ k ∧ k ≤ 10 := by simp at hk; omega
  obtain ⟨hk0, hk10⟩ := hkb
  have HB2 := Lib.hid (And.intro (HST.out.kept hg2 (own_ne HST.out hgl)) (And.intro hrd2 (grown_trans HGA.out hg2)))
  clear hk hrd2 hg2 HST HGA hrda
  go_wp2
  go_loopw [4] (fun v wr => ∃ (m c : Nat) (H : Option Addr) (qs : List Int), v = .slice H m c ∧ m ≤ k.toNat ∧ Hid (m = qs.length) ∧ wr.ownsRow w1.heap.size 3 1 (.slice H m c) m (qs.map (Value.int .i64)) ∧ Rd wr g (1 + 3 * m) ∧ w1.grownBy wr (some g)) (fun v _ => k.toNat - (match v with | .slice _ m _ => m | _ => 0))
  case atStart => exact ⟨0, _, _, [], rfl, by omega, Lib.hid rfl, HB2.out.1, HB2.out.2.1, HB2.out.2.2⟩
  case round =>
    clear HB2
    obtain ⟨m, cH, H, qs, rfl, hm, HM, hown, hrdr, hgr⟩ := hrel
    have hgz := hgr.size
    have hm10 : m ≤ 10 := by omega
    have HO := Lib.hid hown
    have HGR := Lib.hid hgr
    clear hown hgr
    by_cases hlt : (m : Int) < k
    · go_wp2_with fail
      refine (pick_any g _ _ _ hrdr (by omega) (by omega)).mono ?_
      rintro e w3 ⟨x, rfl, hx, hrd3, hg3⟩
      have hx0 := hx.1
      have hx1 := hx.2 (by omega)
      clear hx
      go_wp2_with fail
      refine (pick_any g _ _ _ hrd3 (by omega) (by omega)).mono ?_
      rintro e w4 ⟨y, rfl, hy, hrd4, hg4⟩
      have hy0 := hy.1
      have hy1 := hy.2 (by omega)
      clear hy
      go_wp2_with fail
      refine (one_lit g _ w4 hrd4 (by omega) [x - 1, y - 1, -1] (by simp) (by simp) 3 rfl _ rfl).mono ?_
      rintro e w5 ⟨z, rfl, hz, hrd5, hg5⟩
      clear hz
      have hg35 := grown_trans (grown_trans hg3 hg4) hg5
      have hown5 := HO.out.kept hg35 (own_ne HO.out hgl)
      have hgr5 := grown_trans HGR.out hg35
      clear hg3 hg4 hg5 hg35 hrd3 hrd4 hrdr hx0 hx1 hy0 hy1
      go_wp2_with (at_builtin; refine wpList_push rfl (.tmp 16) (.tmp 32) 27 rfl i0 (.int .i64 0) 8 Try.underlying27 hi0 hz0 hz1 hz2 rfl (by decide) _ _ rfl hown5 [.int .i64 z] rfl rfl (by simp [Value.oneCell']) (by omega) (by omega) hgr5.size ?_)
      intro H' c' w6 hown6 hg6
      have hrd6 := hrd5.own hg6 (fun i hi => by have := (hown5.lt _ hi).1; omega)
      have HW := Lib.hid (And.intro hown6 (And.intro hrd6 (grown_own hgr5 hg6 (fun i hi => (hown5.lt _ hi).1))))
      clear hown5 hgr5 hg6 hrd5 hown6 hrd6
      go_wp2
      go_roundw
      case rel => exact ⟨m + 1, c', H', qs ++ [z], rfl, by omega, Lib.hid (by rw [List.length_append, ← HM.out]; rfl), by rw [List.map_append]; exact HW.out.1, by rw [show 1 + 3 * (m + 1) = 1 + 3 * m + 1 + 1 + 1 by omega]; exact HW.out.2.1, HW.out.2.2⟩
      case measure => simp only []; omega
    · have hcap := own_cap HO.out
      by_cases h0 : m = 0
      · have hd : decide (0 < m) = false := decide_eq_false (by omega)
        have hd2 : decide ((0 : Int) < (m : Int)) = false := decide_eq_false (by omega)
        have HF := Lib.hid (show DrRes w (.returned (.slice H m cH)) wr from ⟨H, cH, qs, by rw [← HM.out], by rw [← HM.out]; omega, by rw [← HM.out]; exact hcap, (own_of_rowS (by decide) HO.out).row, by exact HB1.out.grown HGR.out (by have := HG.out; omega) (fun i hi => by injection hi with hi; have := HG.out; omega)⟩)
        clear h0
        go_wp2
        go_ret
        exact HF.out
      · have hpos : 0 < m := by omega
        have hd : decide (0 < m) = true := decide_eq_true hpos
        have hd2 : decide ((0 : Int) < (m : Int)) = true := decide_eq_true (by omega)
        clear h0
        go_wp2_with fail
        refine (pick_any g _ 30 _ hrdr (by omega) (by omega)).mono ?_
        rintro e w3 ⟨y, rfl, hy, hrd3, hg3⟩
        have hown3 := HO.out.kept hg3 (own_ne HO.out hgl)
        have hgr3 := grown_trans HGR.out hg3
        have H3 := Lib.hid (And.intro hown3 hgr3)
        clear hy hg3 hrdr hown3 hgr3
        by_cases hy0 : y = 0
        · subst hy0
          go_wp2_with fail
          refine (one_lit g _ w3 hrd3 (by omega) [0, -2] (by decide) (by decide) 2 rfl _ rfl).mono ?_
          rintro e w4 ⟨x, rfl, hx, hrd4, hg4⟩
          have hown4 := H3.out.1.kept hg4 (own_ne H3.out.1 hgl)
          have hgr4 := grown_trans H3.out.2 hg4
          obtain ⟨gH, rfl, hgH, hgH2⟩ := own_some hown4 hpos
          have hcy := hown4.cellAt 0 (by omega)
          have hfy := hown4.frozenAt 0
          obtain ⟨y0, hy0e⟩ : ∃ y0, (qs.map (Value.int .i64))[0]? = some y0 := ⟨_, List.getElem?_eq_getElem (by rw [List.length_map, ← HM.out]; exact hpos)⟩
          rw [hy0e] at hcy
          clear hy0e
          have hst := (hown4.stored 0 (.int .i64 x)).1
          rw [← List.map_set] at hst
          have hs4 := hgr4.size
          have HF := Lib.hid (show DrRes w (.returned (.slice (some ⟨gH, 0, none⟩) m cH)) (w4.setCell ⟨gH, 0, none⟩ (.int .i64 x)) from ⟨_, cH, qs.set 0 x, by rw [List.length_set, ← HM.out], by rw [List.length_set, ← HM.out]; omega, by rw [List.length_set, ← HM.out]; exact hcap, (own_of_rowS (by decide) hst).row, by exact (HB1.out.grown hgr4 (by have := HG.out; omega) (fun i hi => by injection hi with hi; have := HG.out; omega)).setCell (p := ⟨gH, 0, none⟩) (by have := HG.out; simp only []; omega) _⟩)
          clear hx hg4 hrd4 hrd3 hown4 hgr4 hst
          go_wp2
          go_ret
          exact HF.out
        · have hyy : (y == 0) = false := beq_eq_false_iff_ne.2 hy0
          have hs3 := H3.out.2.size
          have HF := Lib.hid (show DrRes w (.returned (.slice H m cH)) w3 from ⟨H, cH, qs, by rw [← HM.out], by rw [← HM.out]; omega, by rw [← HM.out]; exact hcap, (own_of_rowS (by decide) H3.out.1).row, by exact HB1.out.grown H3.out.2 (by have := HG.out; omega) (fun i hi => by injection hi with hi; have := HG.out; omega)⟩)
          clear hy0 hrd3
          go_wp2
          go_ret
          exact HF.out
end Go.Proofs.Ytldbefmiabgkhaa
