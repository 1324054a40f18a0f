/- The draw of ForwardOf. No condition. -/
import Derived.Test.YtldbefmiabgkhaaTr
import Derived.Test.YtldbefmiabgkhaaBp
namespace Go.Proofs.Ytldbefmiabgkhaa
open Go.RowKit

set_option maxRecDepth 100000 in
theorem listOf_none (g p : Nat) (low high : Int) (w : World) (hrd : Rd w g p) :
    Calls Try.prog 49 #[.pointer (some ⟨g, 0, none⟩), .int .i64 0, .int .i64 low, .int .i64 high] w fun e w' => ∃ (A : Option Addr) (c : Nat), e = .returned (.slice A 0 c) ∧ Rd w' g p ∧ w.grownBy w' (some g) := by
  have hga : w.grownBy (w.alloc (.cells #[] 3)) (some g) := World.grownBy_alloc w _ _
  have hrda : Rd (w.alloc (.cells #[] 3)) g p := hrd.own (World.grownBy_alloc w _ none) (by simp)
  go_enter Try.func49, Try.ntmps49
  go_wp2
  go_rounds 1
  go_ret
  exact ⟨_, _, rfl, hrda, hga⟩

/-- What is drawn. -/
def DrF (w : World) (e : Ending) (w' : World) : Prop := ∃ (A : Option Addr) (c : Nat) (qs : List Int) (i : Int), e = .returned (.tuple #[.slice A qs.length c, .int .i64 i]) ∧ qs.length ≤ 10 ∧ Ints w' w'.heap.size A qs ∧ Below w.heap.size w w'

set_option maxRecDepth 100000 in
set_option maxHeartbeats 4000000 in
theorem drawForwardOf_any (A : Option Addr) (c : Nat) (zs : List Int) (w : World) (hr : Own w 0 w.heap.size A (zs.map (Value.int .u8))) (hx : zs.length ≤ c ∧ c ≤ maxLen ∧ ∀ z ∈ zs, (Lit.int .u8 z).wf = true) :
    Calls Try.prog 28 #[.slice A zs.length c] w (DrF w) := by
  have H := Lib.hid hx
  clear hx
  go_enter Try.func28, Try.ntmps28
  go_wp2_with fail
  refine (newReader_any _ _ _ _ hr H.out).mono ?_
  rintro e w1 ⟨rfl, hrd, hb1⟩
  clear hr
  obtain ⟨g, hg⟩ : ∃ g, w.heap.size = g := ⟨_, rfl⟩
  have s1 := hb1.size
  have hrd0 : Rd w1 g 0 := by rw [← hg]; exact hrd
  rw [hg]
  have HG := Lib.hid hg
  have HB1 := Lib.hid hb1
  rw [hg] at s1
  clear hg hb1 hrd
  have hgl := hrd0.lt
  go_wp2_with fail
  refine (one_lit g 0 w1 hrd0 (by omega) [5, 6, 4, 8, 9, 2, 1, 0, 10] (by decide) (by decide) 9 rfl _ rfl).mono ?_
  rintro e w2 ⟨n, rfl, hn, hrd2, hg2⟩
  have hnb : 0 ≤ n ∧ n ≤ 10 := by simp at hn; omega
  obtain ⟨hn0, hn10⟩ := hnb
  clear hn hrd0
  by_cases hnz : n = 0
  · subst hnz
    go_wp2_with fail
    refine (listOf_none g _ _ _ w2 hrd2).mono ?_
    rintro e w3 ⟨A3, c3, rfl, hrd3, hg3⟩
    go_wp2_with fail
    refine (pick_any g _ 0 _ hrd3 (by omega) (by omega)).mono ?_
    rintro e w4 ⟨x, rfl, hx, hrd4, hg4⟩
    clear hx
    go_wp2_with fail
    refine (pick_any g _ 0 _ hrd4 (by omega) (by omega)).mono ?_
    rintro e w5 ⟨y, rfl, hy, hrd5, hg5⟩
    clear hy
    go_wp2_with fail
    refine (one_lit g _ w5 hrd5 (by omega) [x, y, 0, 0, -1] (by simp) (by simp) 5 rfl _ rfl).mono ?_
    rintro e w6 ⟨i, rfl, hi, _, hg6⟩
    have hg26 := grown_trans (grown_trans (grown_trans (grown_trans hg2 hg3) hg4) hg5) hg6
    have HF := Lib.hid (show DrF w (.returned (.tuple #[.slice A3 0 c3, .int .i64 i])) w6 from ⟨A3, c3, [], i, rfl, by simp, .inl rfl, HB1.out.grown hg26 (by have := HG.out; omega) (fun k hk => by injection hk with hk; have := HG.out; omega)⟩)
    clear hi hg2 hg3 hg4 hg5 hg6 hg26
    go_wp2_with fail
    go_ret2
    exact HF.out
  · have hnp : 0 < n := by omega
    obtain ⟨m, rfl⟩ : ∃ m : Nat, n = m := ⟨n.toNat, by omega⟩
    have hm : 0 < m := by omega
    have tm : decide (0 < m) = true := decide_eq_true hm
    have tm2 : decide ((0 : Int) < (m : Int)) = true := decide_eq_true hnp
    clear hnz
    go_wp2_with fail
    refine (listOf_cap g _ (m : Int) 0 ((m : Int) - 1) w2 hrd2 (by omega) (by omega) (by omega) (by omega) (by omega)).mono ?_
    rintro e w3 ⟨A3, c3, qs, rfl, hcV, hql, hqr, ho, hrd3, hg3⟩
    have HQ := Lib.hid (show qs.length = m by omega)
    have hs3 := hg3.size
    have hs2 := hg2.size
    have HG3 := Lib.hid (And.intro (grown_trans hg2 hg3) ho)
    rw [HQ.out]
    clear hql hqr ho hg3 hcV hrd2
    go_wp2_with fail
    refine (pick_any g _ 30 _ hrd3 (by omega) (by omega)).mono ?_
    rintro e w4 ⟨q, rfl, hq, hrd4, hg4⟩
    have hs4 := hg4.size
    have HG4 := Lib.hid (And.intro (grown_trans HG3.out.1 hg4) (show OwnInts w4 w2.heap.size w3.heap.size A3 qs from HG3.out.2.apart (Nat.le_refl _) hg4 (fun k hk => by injection hk with hk; have := hg2.size; omega)))
    clear hq hg4 hrd3
    by_cases hq0 : q = 0
    · subst hq0
      go_wp2_with fail
      refine (one_lit g _ w4 hrd4 (by omega) [-1, (m : Int)] (by simp) (by simp) 2 rfl _ rfl).mono ?_
      rintro e w5 ⟨x, rfl, hx, hrd5, hg5⟩
      clear hx
      have hs5 := hg5.size
      have ho5 : OwnInts w5 w2.heap.size w3.heap.size A3 qs := HG4.out.2.apart (by omega) hg5 (fun k hk => by injection hk with hk; have := hg2.size; omega)
      have HG5 := Lib.hid (And.intro (grown_trans HG4.out.1 hg5) ho5)
      obtain ⟨b, o, rfl, hbb, hbw, hc, hf⟩ := ho5.open' (by omega) (by simp; have := HQ.out; omega)
      obtain ⟨y0, hy0⟩ : ∃ y, (qs.map (Value.int .i64))[0]? = some y := ⟨_, List.getElem?_eq_getElem (by simp; have := HQ.out; omega)⟩
      have hcy := hc 0 _ hy0
      have hfy := hf (o + 0)
      rw [Nat.add_zero] at hcy hfy
      obtain ⟨U, hU⟩ : ∃ U, w5.setCell ⟨b, o, none⟩ (.int .i64 x) = U := ⟨_, rfl⟩
      have hset := ho5.set 0 (.int .i64 x)
      rw [← List.map_set, Nat.add_zero, hU] at hset
      have hgU : w5.grownBy U (some b) := by rw [← hU]; exact g_set (World.grownBy.refl w5 (some b)) o (.int .i64 x)
      have hrdU : Rd U g _ := hrd5.own hgU (fun i hi => by injection hi with hi; omega)
      have HU := Lib.hid (And.intro hset hgU)
      have hsU : U.heap.size = w5.heap.size := by rw [← hU]; simp
      clear hc hf hy0 ho5 hg5 hset hgU hrd5 hrd4
      go_wp2_with fail
      clear hU hcy hfy
      refine (pick_any g _ _ _ hrdU (by omega) (by omega)).mono ?_
      rintro e w6 ⟨x6, rfl, hx6, hrd6, hg6⟩
      clear hx6
      go_wp2_with fail
      refine (pick_any g _ _ _ hrd6 (by omega) (by omega)).mono ?_
      rintro e w7 ⟨x7, rfl, hx7, hrd7, hg7⟩
      clear hx7
      go_wp2_with fail
      refine (one_lit g _ w7 hrd7 (by omega) [x6, x7, 0, (m : Int), -1] (by simp) (by simp) 5 rfl _ rfl).mono ?_
      rintro e w8 ⟨i, rfl, hi, _, hg8⟩
      have hg58 := grown_trans (grown_trans hg6 hg7) hg8
      have hs8 := hg58.size
      have HF := Lib.hid (show DrF w (.returned (.tuple #[.slice (some ⟨b, o, none⟩) m c3, .int .i64 i])) w8 from ⟨some ⟨b, o, none⟩, c3, qs.set 0 x, i, by rw [List.length_set, HQ.out], by rw [List.length_set, HQ.out]; omega, (((HU.out.1.apart (by omega) hg58 (fun k hk => by injection hk with hk; have := hg2.size; omega)).more (by omega)).row), (((HB1.out.grown HG5.out.1 (by have := HG.out; omega) (fun k hk => by injection hk with hk; have := HG.out; omega)).grown HU.out.2 (by have := HG.out; omega) (fun k hk => by injection hk with hk; have := HG.out; have := hg2.size; omega)).grown hg58 (by have := HG.out; omega) (fun k hk => by injection hk with hk; have := HG.out; omega))⟩)
      clear hi hg2 hg6 hg7 hg8 hg58
      go_wp2_with fail
      go_ret2
      exact HF.out
    · have hyy : (q == 0) = false := beq_eq_false_iff_ne.2 hq0
      clear hq0
      go_wp2_with fail
      refine (pick_any g _ _ _ hrd4 (by omega) (by omega)).mono ?_
      rintro e w6 ⟨x6, rfl, hx6, hrd6, hg6⟩
      clear hx6
      go_wp2_with fail
      refine (pick_any g _ _ _ hrd6 (by omega) (by omega)).mono ?_
      rintro e w7 ⟨x7, rfl, hx7, hrd7, hg7⟩
      clear hx7
      go_wp2_with fail
      refine (one_lit g _ w7 hrd7 (by omega) [x6, x7, 0, (m : Int), -1] (by simp) (by simp) 5 rfl _ rfl).mono ?_
      rintro e w8 ⟨i, rfl, hi, _, hg8⟩
      have hg58 := grown_trans (grown_trans hg6 hg7) hg8
      have hs8 := hg58.size
      have HF := Lib.hid (show DrF w (.returned (.tuple #[.slice A3 m c3, .int .i64 i])) w8 from ⟨A3, c3, qs, i, by rw [HQ.out], by rw [HQ.out]; omega, (((HG4.out.2.apart (by omega) hg58 (fun k hk => by injection hk with hk; have := hg2.size; omega)).more (by omega)).row), ((HB1.out.grown HG4.out.1 (by have := HG.out; omega) (fun k hk => by injection hk with hk; have := HG.out; omega)).grown hg58 (by have := HG.out; omega) (fun k hk => by injection hk with hk; have := HG.out; omega))⟩)
      clear hi hg2 hg6 hg7 hg8 hg58
      go_wp2_with fail
      go_ret2
      exact HF.out
end Go.Proofs.Ytldbefmiabgkhaa
