/- Stamps that are drawn. No condition. -/
import Derived.Test.YtookdmdlpglbcabS9
import Derived.Test.YtookdmdlpglbcabG6
import Derived.Test.YtookdmdlpglbcabY0
import Derived.IntWalk
namespace Go.Proofs.Ytookdmdlpglbcab
open Go.RowKit

def small (zs : List Int) : Prop := ∀ z ∈ zs, 0 ≤ z ∧ z ≤ 100

def StDrawn (w : World) (g p : Nat) (e : Ending) (w' : World) : Prop := ∃ (A : Option Addr) (c : Nat) (zs : List Int),
      e = .returned (.slice A zs.length c) ∧ zs.length ≤ 5 ∧ zs.length ≤ c ∧ small zs ∧ OwnInts w' w.heap.size w'.heap.size A zs ∧ (∃ q, q ≤ p + 20 ∧ Rd w' g q) ∧ w.grownBy w' (some g)

set_option maxRecDepth 100000 in
set_option maxHeartbeats 4000000 in
theorem someStamps_any (g p : Nat) (w : World) (hrd : Rd w g p) (hp : p ≤ 1000) :
    Calls Try.prog 34 #[.pointer (some ⟨g, 0, none⟩)] w (StDrawn w g p) := by
  obtain ⟨i0, hi0, hz0, hz1, hz2⟩ := info_parts Try.info3
  have hgl := hrd.lt
  go_enter Try.func34, Try.ntmps34
  go_wp2_with fail
  refine (one_lit g p w hrd (by omega) [2, 3, 4, 1, 2, 0, 5] (by decide) (by decide) 7 rfl _ rfl).mono ?_
  rintro e w1 ⟨n, rfl, hn, hrd1, hg1⟩
  have hnb : 0 ≤ n ∧ n ≤ 5 := by simp at hn; omega
  obtain ⟨hn0, hn5⟩ := hnb
  have hz1' := hrd1.lt
  have hs1 := hg1.size
  have hst := first_lit' w1 w.heap.size w1.heap.size hs1 rfl
  have hga := g_alloc hg1 (.cells #[] 3)
  have hrda : Rd (w1.alloc (.cells #[] 3)) g (p + 1) := hrd1.own (World.grownBy_alloc w1 _ none) (by simp)
  have H1 := Lib.hid (And.intro hst hga)
  clear hn hst hga hg1 hrd1
  go_wp2_with fail
  refine (pick_any g _ 2 _ hrda (by omega) (by omega)).mono ?_
  rintro e w2 ⟨y, rfl, hy, hrd2, hg2⟩
  have hown2 := H1.out.1.kept hg2 (own_ne H1.out.1 hgl)
  have HG2 := Lib.hid (grown_trans H1.out.2 hg2)
  have hs2 : w.heap.size ≤ w2.heap.size := (grown_trans H1.out.2 hg2).size
  clear hy hg2 hrda H1
  by_cases hy0 : y = 0
  · subst hy0
    by_cases hn1 : 0 < n
    · go_wp2_with (at_builtin; refine wpList_push rfl (.tmp 17) (.tmp 18) 23 rfl i0 (.int .i64 0) 8 Try.underlying23 hi0 hz0 hz1 hz2 rfl (by decide) _ _ rfl hown2 [.int .i64 1] rfl rfl (by simp [Value.oneCell']) (by omega) (by omega) (by omega) ?_)
      intro A3 c3 w3 hown3 hg3
      have hrd3 := hrd2.own hg3 (fun i hi => by have := (hown2.lt _ hi).1; omega)
      have HIN := Lib.hid (And.intro hown3 (And.intro hrd3 (grown_own HG2.out hg3 (fun i hi => (hown2.lt _ hi).1))))
      clear hown2 hown3 hg3 hrd3 hrd2
      go_wp2
      go_loopw [4, 5] (fun o l wr => ∃ (A : Option Addr) (c : Nat) (zs : List Int) (last : Int) (q : Nat), o = .slice A zs.length c ∧ l = .int .i64 last ∧ zs.length ≤ n.toNat ∧ small zs ∧ (0 ≤ last ∧ last ≤ 4 * zs.length) ∧ q ≤ p + 2 + zs.length ∧
          wr.ownsRow w.heap.size 3 1 (.slice A zs.length c) zs.length (zs.map (Value.int .i64)) ∧ Rd wr g q ∧ w.grownBy wr (some g)) (fun o _ _ => n.toNat - (match o with | .slice _ m _ => m | _ => 0))
      case atStart => exact ⟨A3, c3, [1], 1, p + 2, rfl, rfl, by simp; omega, fun z hz => by simp at hz; omega, by simp, by simp, HIN.out.1, HIN.out.2.1, HIN.out.2.2⟩
      case round =>
        obtain ⟨A, c, zs, last, q, rfl, rfl, hk, hsm, ⟨hl0, hl1⟩, hq, hown, hrdr, hgr⟩ := hrel
        clear HIN
        have HSM := Lib.hid hsm
        have HGR := Lib.hid hgr
        have hsz := hgr.size
        clear hsm hgr
        by_cases hlt : (zs.length : Int) < n
        · go_wp2_with fail
          refine (pick_any g _ 4 _ hrdr (by omega) (by omega)).mono ?_
          rintro e w4 ⟨t, rfl, ht, hrd4, hg4⟩
          have ht0 : 0 ≤ t := ht.1
          have ht4 : t < 4 := ht.2 (by omega)
          have hown4 := hown.kept hg4 (own_ne hown hgl)
          have HG4 := Lib.hid (grown_trans HGR.out hg4)
          have hs4 : w.heap.size ≤ w4.heap.size := (grown_trans HGR.out hg4).size
          have HRD4 := Lib.hid hrd4
          have hx0 : 0 ≤ last + 1 + t ∧ last + 1 + t ≤ 4 * zs.length + 4 := by omega
          have HX := Lib.hid hx0
          clear ht hg4 hown hrdr hrd4 hx0
          go_wp2_with (at_builtin; refine wpList_push rfl (.tmp 29) (.tmp 31) 23 rfl i0 (.int .i64 0) 8 Try.underlying23 hi0 hz0 hz1 hz2 rfl (by decide) _ _ rfl hown4 [.int .i64 (last + 1 + t)] rfl rfl (by simp [Value.oneCell']) (by omega) (by omega) (by omega) ?_)
          intro A5 c5 w5 hown5 hg5
          have hrd5 := HRD4.out.own hg5 (fun i hi => by have := (hown4.lt _ hi).1; omega)
          have HF := Lib.hid (And.intro hown5 (And.intro hrd5 (grown_own HG4.out hg5 (fun i hi => (hown4.lt _ hi).1))))
          have hx0 := HX.out
          clear hown4 hown5 hg5 hrd5
          go_wp2
          go_roundw
          case rel => exact ⟨A5, c5, zs ++ [last + 1 + t], last + 1 + t, q + 1, by simp, rfl, by simp; omega, fun z hz => by
            rcases List.mem_append.1 hz with h | h
            · exact HSM.out z h
            · simp at h; subst h; omega, by simp; omega, by simp; omega, by simpa [List.map_append] using HF.out.1, HF.out.2.1, HF.out.2.2⟩
          case measure => simp; omega
        · have hzn : zs.length ≤ 5 := by omega
          by_cases h0 : zs.length = 0
          · have hz : zs = [] := List.length_eq_zero_iff.1 h0
            have hd : decide (0 < zs.length) = false := decide_eq_false (by omega)
            have HZ := Lib.hid hz
            have HO := Lib.hid hown
            have HR := Lib.hid hrdr
            clear hown hrdr h0 hz
            go_wp2
            go_ret
            obtain ⟨A2, c2, hv, _, ho⟩ := own_of_row HO.out
            simp only [Value.slice.injEq] at hv
            obtain ⟨rfl, _, rfl⟩ := hv
            exact ⟨_, _, zs, rfl, by omega, own_cap HO.out, HSM.out, ho, ⟨q, by omega, HR.out⟩, HGR.out⟩
          · have hpos : 0 < zs.length := by omega
            have hd : decide (0 < zs.length) = true := decide_eq_true hpos
            have hpos2 : (0 : Int) < (zs.length : Int) := by omega
            obtain ⟨gA, rfl, hgA, hgA2⟩ := own_some hown hpos
            go_wp2_with fail
            refine (pick_any g _ 30 _ hrdr (by omega) (by omega)).mono ?_
            rintro e w4 ⟨y3, rfl, hy3, hrd4, hg4⟩
            have hown4 := hown.kept hg4 (own_ne hown hgl)
            have HG4 := Lib.hid (grown_trans HGR.out hg4)
            have hs4 : w.heap.size ≤ w4.heap.size := (grown_trans HGR.out hg4).size
            have hcap := own_cap hown4
            clear hy3 hg4 hown hrdr
            by_cases hy30 : y3 = 0
            · subst hy30
              go_wp2_with fail
              refine (one_lit g _ w4 hrd4 (by omega) [0, 13, last] (by simp) (by simp) 3 rfl _ (by simp)).mono ?_
              rintro e w5 ⟨x, rfl, hx, hrd5, hg5⟩
              have hx0 : 0 ≤ x ∧ x ≤ 100 := by simp at hx; omega
              have hown5 := hown4.kept hg5 (own_ne hown4 hgl)
              have HG5 := Lib.hid (grown_trans HG4.out hg5)
              have hat := hown5.cellAt 0 (by omega)
              have hfr := hown5.frozenAt 0
              have hst := hown5.stored 0 (.int .i64 x)
              have hc0 : w5.cell? ⟨gA, 0, none⟩ = some (.int .i64 zs[0]) := by rw [hat, List.getElem?_map, List.getElem?_eq_getElem hpos]; rfl
              have HX := Lib.hid hx0
              have HRD := Lib.hid (hrd5.own (g_set (World.grownBy.refl w5 (some gA)) 0 (.int .i64 x)) (fun i hi => by injection hi with hi; omega))
              have HO := Lib.hid hst.1
              have HGG := Lib.hid (grown_own HG5.out (g_set (World.grownBy.refl w5 (some gA)) 0 (.int .i64 x)) (fun i hi => by injection hi with hi; omega))
              clear hst hown4 hown5 hg5 hrd4 hrd5 hat hx hx0
              go_wp2
              go_ret
              obtain ⟨A2, c2, hv, _, ho⟩ := own_of_row HO.out
              simp only [Value.slice.injEq] at hv
              obtain ⟨rfl, _, rfl⟩ := hv
              exact ⟨some ⟨gA, 0, none⟩, c, zs.set 0 x, congrArg (fun m => Ending.returned (.slice (some ⟨gA, 0, none⟩) m c)) (by simp : zs.length = (zs.set 0 x).length), by simp; omega, by simp; omega, fun z hz => by
                rcases List.mem_or_eq_of_mem_set hz with h | rfl
                · exact HSM.out z h
                · exact HX.out, by show Own _ _ _ _ ((zs.set 0 x).map (Value.int .i64)); rw [List.map_set]; exact ho, ⟨_, by omega, HRD.out⟩, HGG.out⟩
            · have HO := Lib.hid hown4
              have HRD := Lib.hid hrd4
              have hyq : (y3 == 0) = false := beq_eq_false_iff_ne.2 hy30
              clear hown4 hrd4
              go_wp2
              go_ret
              obtain ⟨A2, c2, hv, _, ho⟩ := own_of_row HO.out
              simp only [Value.slice.injEq] at hv
              obtain ⟨rfl, _, rfl⟩ := hv
              exact ⟨_, _, zs, rfl, hzn, hcap, HSM.out, ho, ⟨_, by omega, HRD.out⟩, HG4.out⟩
    · have HIN := Lib.hid (And.intro hown2 (And.intro hrd2 HG2.out))
      clear hown2 hrd2
      go_wp2
      go_loopw [4, 5] (fun o l wr => ∃ (A : Option Addr) (c : Nat) (zs : List Int) (last : Int) (q : Nat), o = .slice A zs.length c ∧ l = .int .i64 last ∧ zs.length ≤ n.toNat ∧ small zs ∧ (0 ≤ last ∧ last ≤ 4 * zs.length) ∧ q ≤ p + 2 + zs.length ∧
          wr.ownsRow w.heap.size 3 1 (.slice A zs.length c) zs.length (zs.map (Value.int .i64)) ∧ Rd wr g q ∧ w.grownBy wr (some g)) (fun o _ _ => n.toNat - (match o with | .slice _ m _ => m | _ => 0))
      case atStart => exact ⟨_, _, [], 0, p + 2, rfl, rfl, by simp, fun z hz => by simp at hz, by simp, by simp, HIN.out.1, HIN.out.2.1, HIN.out.2.2⟩
      case round =>
        obtain ⟨A, c, zs, last, q, rfl, rfl, hk, hsm, ⟨hl0, hl1⟩, hq, hown, hrdr, hgr⟩ := hrel
        clear HIN
        have HSM := Lib.hid hsm
        have HGR := Lib.hid hgr
        have hsz := hgr.size
        clear hsm hgr
        by_cases hlt : (zs.length : Int) < n
        · exfalso; omega
        · have hzn : zs.length ≤ 5 := by omega
          by_cases h0 : zs.length = 0
          · have hz : zs = [] := List.length_eq_zero_iff.1 h0
            have hd : decide (0 < zs.length) = false := decide_eq_false (by omega)
            have HZ := Lib.hid hz
            have HO := Lib.hid hown
            have HR := Lib.hid hrdr
            clear hown hrdr h0 hz
            go_wp2
            go_ret
            obtain ⟨A2, c2, hv, _, ho⟩ := own_of_row HO.out
            simp only [Value.slice.injEq] at hv
            obtain ⟨rfl, _, rfl⟩ := hv
            exact ⟨_, _, zs, rfl, by omega, own_cap HO.out, HSM.out, ho, ⟨q, by omega, HR.out⟩, HGR.out⟩
          · exfalso; omega
  · have hyq0 : (y == 0) = false := beq_eq_false_iff_ne.2 hy0
    have HIN := Lib.hid (And.intro hown2 (And.intro hrd2 HG2.out))
    clear hown2 hrd2
    go_wp2
    go_loopw [4, 5] (fun o l wr => ∃ (A : Option Addr) (c : Nat) (zs : List Int) (last : Int) (q : Nat), o = .slice A zs.length c ∧ l = .int .i64 last ∧ zs.length ≤ n.toNat ∧ small zs ∧ (0 ≤ last ∧ last ≤ 4 * zs.length) ∧ q ≤ p + 2 + zs.length ∧
        wr.ownsRow w.heap.size 3 1 (.slice A zs.length c) zs.length (zs.map (Value.int .i64)) ∧ Rd wr g q ∧ w.grownBy wr (some g)) (fun o _ _ => n.toNat - (match o with | .slice _ m _ => m | _ => 0))
    case atStart => exact ⟨_, _, [], 0, p + 2, rfl, rfl, by simp, fun z hz => by simp at hz, by simp, by simp, HIN.out.1, HIN.out.2.1, HIN.out.2.2⟩
    case round =>
      obtain ⟨A, c, zs, last, q, rfl, rfl, hk, hsm, ⟨hl0, hl1⟩, hq, hown, hrdr, hgr⟩ := hrel
      clear HIN
      have HSM := Lib.hid hsm
      have HGR := Lib.hid hgr
      have hsz := hgr.size
      clear hsm hgr
      by_cases hlt : (zs.length : Int) < n
      · go_wp2_with fail
        refine (pick_any g _ 4 _ hrdr (by omega) (by omega)).mono ?_
        rintro e w4 ⟨t, rfl, ht, hrd4, hg4⟩
        have ht0 : 0 ≤ t := ht.1
        have ht4 : t < 4 := ht.2 (by omega)
        have hown4 := hown.kept hg4 (own_ne hown hgl)
        have HG4 := Lib.hid (grown_trans HGR.out hg4)
        have hs4 : w.heap.size ≤ w4.heap.size := (grown_trans HGR.out hg4).size
        have HRD4 := Lib.hid hrd4
        have hx0 : 0 ≤ last + 1 + t ∧ last + 1 + t ≤ 4 * zs.length + 4 := by omega
        have HX := Lib.hid hx0
        clear ht hg4 hown hrdr hrd4 hx0
        go_wp2_with (at_builtin; refine wpList_push rfl (.tmp 29) (.tmp 31) 23 rfl i0 (.int .i64 0) 8 Try.underlying23 hi0 hz0 hz1 hz2 rfl (by decide) _ _ rfl hown4 [.int .i64 (last + 1 + t)] rfl rfl (by simp [Value.oneCell']) (by omega) (by omega) (by omega) ?_)
        intro A5 c5 w5 hown5 hg5
        have hrd5 := HRD4.out.own hg5 (fun i hi => by have := (hown4.lt _ hi).1; omega)
        have HF := Lib.hid (And.intro hown5 (And.intro hrd5 (grown_own HG4.out hg5 (fun i hi => (hown4.lt _ hi).1))))
        have hx0 := HX.out
        clear hown4 hown5 hg5 hrd5
        go_wp2
        go_roundw
        case rel => exact ⟨A5, c5, zs ++ [last + 1 + t], last + 1 + t, q + 1, by simp, rfl, by simp; omega, fun z hz => by
          rcases List.mem_append.1 hz with h | h
          · exact HSM.out z h
          · simp at h; subst h; omega, by simp; omega, by simp; omega, by simpa [List.map_append] using HF.out.1, HF.out.2.1, HF.out.2.2⟩
        case measure => simp; omega
      · have hzn : zs.length ≤ 5 := by omega
        by_cases h0 : zs.length = 0
        · have hz : zs = [] := List.length_eq_zero_iff.1 h0
          have hd : decide (0 < zs.length) = false := decide_eq_false (by omega)
          have HZ := Lib.hid hz
          have HO := Lib.hid hown
          have HR := Lib.hid hrdr
          clear hown hrdr h0 hz
          go_wp2
          go_ret
          obtain ⟨A2, c2, hv, _, ho⟩ := own_of_row HO.out
          simp only [Value.slice.injEq] at hv
          obtain ⟨rfl, _, rfl⟩ := hv
          exact ⟨_, _, zs, rfl, by omega, own_cap HO.out, HSM.out, ho, ⟨q, by omega, HR.out⟩, HGR.out⟩
        · have hpos : 0 < zs.length := by omega
          have hd : decide (0 < zs.length) = true := decide_eq_true hpos
          have hpos2 : (0 : Int) < (zs.length : Int) := by omega
          obtain ⟨gA, rfl, hgA, hgA2⟩ := own_some hown hpos
          go_wp2_with fail
          refine (pick_any g _ 30 _ hrdr (by omega) (by omega)).mono ?_
          rintro e w4 ⟨y3, rfl, hy3, hrd4, hg4⟩
          have hown4 := hown.kept hg4 (own_ne hown hgl)
          have HG4 := Lib.hid (grown_trans HGR.out hg4)
          have hs4 : w.heap.size ≤ w4.heap.size := (grown_trans HGR.out hg4).size
          have hcap := own_cap hown4
          clear hy3 hg4 hown hrdr
          by_cases hy30 : y3 = 0
          · subst hy30
            go_wp2_with fail
            refine (one_lit g _ w4 hrd4 (by omega) [0, 13, last] (by simp) (by simp) 3 rfl _ (by simp)).mono ?_
            rintro e w5 ⟨x, rfl, hx, hrd5, hg5⟩
            have hx0 : 0 ≤ x ∧ x ≤ 100 := by simp at hx; omega
            have hown5 := hown4.kept hg5 (own_ne hown4 hgl)
            have HG5 := Lib.hid (grown_trans HG4.out hg5)
            have hat := hown5.cellAt 0 (by omega)
            have hfr := hown5.frozenAt 0
            have hst := hown5.stored 0 (.int .i64 x)
            have hc0 : w5.cell? ⟨gA, 0, none⟩ = some (.int .i64 zs[0]) := by rw [hat, List.getElem?_map, List.getElem?_eq_getElem hpos]; rfl
            have HX := Lib.hid hx0
            have HRD := Lib.hid (hrd5.own (g_set (World.grownBy.refl w5 (some gA)) 0 (.int .i64 x)) (fun i hi => by injection hi with hi; omega))
            have HO := Lib.hid hst.1
            have HGG := Lib.hid (grown_own HG5.out (g_set (World.grownBy.refl w5 (some gA)) 0 (.int .i64 x)) (fun i hi => by injection hi with hi; omega))
            clear hst hown4 hown5 hg5 hrd4 hrd5 hat hx hx0
            go_wp2
            go_ret
            obtain ⟨A2, c2, hv, _, ho⟩ := own_of_row HO.out
            simp only [Value.slice.injEq] at hv
            obtain ⟨rfl, _, rfl⟩ := hv
            exact ⟨some ⟨gA, 0, none⟩, c, zs.set 0 x, congrArg (fun m => Ending.returned (.slice (some ⟨gA, 0, none⟩) m c)) (by simp : zs.length = (zs.set 0 x).length), by simp; omega, by simp; omega, fun z hz => by
              rcases List.mem_or_eq_of_mem_set hz with h | rfl
              · exact HSM.out z h
              · exact HX.out, by show Own _ _ _ _ ((zs.set 0 x).map (Value.int .i64)); rw [List.map_set]; exact ho, ⟨_, by omega, HRD.out⟩, HGG.out⟩
          · have HO := Lib.hid hown4
            have HRD := Lib.hid hrd4
            have hyq : (y3 == 0) = false := beq_eq_false_iff_ne.2 hy30
            clear hown4 hrd4
            go_wp2
            go_ret
            obtain ⟨A2, c2, hv, _, ho⟩ := own_of_row HO.out
            simp only [Value.slice.injEq] at hv
            obtain ⟨rfl, _, rfl⟩ := hv
            exact ⟨_, _, zs, rfl, hzn, hcap, HSM.out, ho, ⟨_, by omega, HRD.out⟩, HG4.out⟩
end Go.Proofs.Ytookdmdlpglbcab
