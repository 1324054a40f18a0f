/- Groups that are drawn. No condition. -/
import Derived.Test.YtldbefmiabgkhabBp
import Derived.Test.YtldbefmiabgkhabRd2
import Derived.Test.YtldbefmiabgkhabH6
namespace Go.Proofs.Ytldbefmiabgkhab
open Go.RowKit

def Four (rs : List (List Int)) : Prop := ∀ r ∈ rs, r.length ≤ 4
theorem Four.push {rs : List (List Int)} {r : List Int} (h : Four rs) (hr : r.length ≤ 4) : Four (rs ++ [r]) := fun x hx => by
  rcases List.mem_append.1 hx with hx | hx
  · exact h x hx
  · simp at hx; rw [hx]; exact hr
theorem Four.set {rs : List (List Int)} {r : List Int} {k : Nat} (h : Four rs) (hr : r.length ≤ 4) : Four (rs.set k r) := fun x hx => by
  rcases List.mem_or_eq_of_mem_set hx with hx | rfl
  · exact h x hx
  · exact hr

set_option maxRecDepth 100000 in
set_option maxHeartbeats 2000000 in
theorem someGroups_any (g p : Nat) (w : World) (hrd : Rd w g p) (hp : p ≤ 1000) :
    Calls Try.prog 37 #[.pointer (some ⟨g, 0, none⟩)] w fun e w' => ∃ (A : Option Addr) (c : Nat) (rs : List (List Int)),
      e = .returned (.slice A rs.length c) ∧ rs.length ≤ 5 ∧ rs.length ≤ c ∧ Four rs ∧ MGrid w' w.heap.size w'.heap.size A rs ∧ (∃ q, q ≤ p + 60 ∧ Rd w' g q) ∧ w.grownBy w' (some g) := by
  obtain ⟨i0, hi0, hz0, hz1, hz2⟩ := info_parts Try.infoR
  obtain ⟨j0, hj0, hy0, hy1, hy2⟩ := info_parts Try.info3
  have hgl := hrd.lt
  have hga : w.grownBy (w.alloc (.cells #[] 24)) (some g) := World.grownBy_alloc w _ _
  have hrda : Rd (w.alloc (.cells #[] 24)) g p := hrd.own (World.grownBy_alloc w _ none) (by simp)
  have HST := Lib.hid (Built.start w w.heap.size (Nat.le_refl _))
  have HGA := Lib.hid hga
  clear hga
  go_enter Try.func37, Try.ntmps37
  go_wp2_with fail
  refine (one_at g p (w.alloc (.cells #[] 24)) hrda (by omega) [3, 4, 5, 2, 1, 0] (by decide) (by decide) 6 _ rfl (by simp) _ rfl).mono ?_
  rintro e w1 ⟨k, rfl, hk, hrd1, hg1⟩
  have hkb : 0 ≤ k ∧ k ≤ 5 := by simp at hk; omega
  obtain ⟨hk0, hk5⟩ := hkb
  have HB1 := Lib.hid (And.intro (HST.out.apart hg1 (fun i hi => by injection hi with hi; omega)) (And.intro hrd1 (grown_trans HGA.out hg1)))
  clear hk hrd1 hg1 HST HGA hrda
  go_wp2
  go_loopw [3] (fun v wr => ∃ (H : Option Addr) (c q : Nat) (hs : List Value) (rs : List (List Int)), v = .slice H rs.length c ∧ rs.length ≤ k.toNat ∧ Four rs ∧ Built wr w.heap.size H c hs rs ∧ q ≤ p + 1 + 5 * rs.length ∧ Rd wr g q ∧ w.grownBy wr (some g))
    (fun v _ => k.toNat - (match v with | .slice _ m _ => m | _ => 0))
  case atStart => exact ⟨_, 0, p + 1, [], [], rfl, by simp, fun r hr => by simp at hr, HB1.out.1, by simp, HB1.out.2.1, HB1.out.2.2⟩
  case round =>
    obtain ⟨H, c, q, hs, rs, rfl, hl, htw, hbu, hq, hrdr, hgr⟩ := hrel
    clear HB1
    have HTW := Lib.hid htw
    have HGR := Lib.hid hgr
    have hgz := hgr.size
    have hl5 : rs.length ≤ 5 := by omega
    clear htw hgr
    by_cases hlt : (rs.length : Int) < k
    · go_wp2_with fail
      refine (one_lit g _ wr hrdr (by omega) [2, 3, 1, 4, 0] (by decide) (by decide) 5 rfl _ rfl).mono ?_
      rintro e w2 ⟨x, rfl, hx, hrd2, hg2⟩
      have hx1 : x ≤ 4 := by simp at hx; omega
      have hx0 : 0 ≤ x := by simp at hx; omega
      clear hx
      have hb2 := hbu.apart hg2 (fun i hi => by injection hi with hi; omega)
      have hs2 := hg2.size
      go_wp2_with fail
      refine (listOf_cap g _ x 0 8 w2 hrd2 (by omega) (by omega) (by omega) (by omega) (by omega)).mono ?_
      rintro e w3 ⟨A3, c3, V, rfl, hcV, hVl, hVr, hV, hrd3, hg3⟩
      have hb3 := hb2.apart hg3 (fun i hi => by injection hi with hi; omega)
      have hs3 := hg3.size
      have hV4 : V.length ≤ 4 := by omega
      have HV := Lib.hid (And.intro hVl hcV)
      have H3 := Lib.hid (And.intro hb2 (And.intro hb3 hV))
      have HG := Lib.hid (grown_trans HGR.out (grown_trans hg2 hg3))
      have hown3 := hb3.1
      clear hbu hb2 hb3 hV hg2 hg3 hrd2 hrdr hVr hVl hcV
      go_wp2_with (at_builtin; refine wpList_push_in rfl (.tmp 13) (.tmp 19) 22 rfl i0 (.slice none 0 0) 24 Try.underlying22 hi0 hz0 hz1 hz2 rfl (by decide) _ _ rfl hown3 [.slice A3 V.length c3] rfl _ rfl rfl (by simp [Value.oneCell']) (by omega) (by omega) (by omega) ?_)
      intro H' c' w6 hown6 hg6 hat6
      have hb6 := H3.out.1.push2 (by omega) H3.out.2.1 hs3 H3.out.2.2 HV.out.2 hown6 hg6 (hat6.imp id (fun ⟨a, h1, h2⟩ => by rw [h1]; simp [h2]))
      have hrd6 := hrd3.own hg6 (fun i hi => by have := (hown3.lt _ hi).1; omega)
      have HF := Lib.hid (And.intro hb6 (And.intro hrd6 (grown_own HG.out hg6 (fun i hi => (hown3.lt _ hi).1))))
      have HVL := Lib.hid (show q + 1 + x.toNat ≤ p + 1 + 5 * (rs.length + 1) by omega)
      clear hown3 hown6 hg6 hat6 hb6 hrd3 hrd6
      go_wp2
      go_roundw
      case rel => exact ⟨H', c', _, _, rs ++ [V], by simp, by simp; omega, HTW.out.push hV4, HF.out.1, by rw [List.length_append]; exact HVL.out, HF.out.2.1, HF.out.2.2⟩
      case measure => simp; omega
    · have hN : rs.length = k.toNat := by omega
      have HN := Lib.hid hN
      have HMG := Lib.hid hbu.mgrid
      have hcap := hbu.cap
      clear hN
      by_cases h0 : rs.length = 0
      · have hd : decide (0 < rs.length) = false := decide_eq_false (by omega)
        have H0 := Lib.hid h0
        clear h0
        go_wp2
        go_ret
        exact ⟨H, c, rs, rfl, hl5, hcap, HTW.out, HMG.out, ⟨_, by omega, hrdr⟩, HGR.out⟩
      · have hpos : 0 < rs.length := by omega
        have hd : decide (0 < rs.length) = true := decide_eq_true hpos
        obtain ⟨gH, rfl, hgH, _⟩ := own_some hbu.1 hpos
        clear h0 hbu
        go_wp2_with fail
        refine (pick_any g _ 30 _ hrdr (by omega) (by omega)).mono ?_
        rintro e w2 ⟨y, rfl, hy, hrd2, hg2⟩
        have hm2 := (HMG.out.apart (Nat.le_refl _) hg2 (fun i hi => by injection hi with hi; omega)).more hg2.size
        have hz2 := hg2.size
        have H2 := Lib.hid (And.intro hm2 (grown_trans HGR.out hg2))
        clear hy hm2 hg2 hrdr
        by_cases hy0 : y = 0
        · subst hy0
          go_wp2_with fail
          refine (one_lit g _ w2 hrd2 (by omega) [-1, 9] (by decide) (by decide) 2 rfl _ rfl).mono ?_
          rintro e w3 ⟨x, rfl, hx, hrd3, hg3⟩
          clear hx
          have hm3 := (H2.out.1.apart (Nat.le_refl _) hg3 (fun i hi => by injection hi with hi; omega)).more hg3.size
          have hz3 := hg3.size
          have HG3 := Lib.hid (grown_trans H2.out.2 hg3)
          have HM3 := Lib.hid hm3
          obtain ⟨w5, hw5⟩ : ∃ w5, w3.alloc (.cells #[.int .i64 x] 3) = w5 := ⟨_, rfl⟩
          have hg35 : w3.grownBy w5 none := by rw [← hw5]; exact World.grownBy_alloc w3 _ none
          have hb35 := below_g hg35 (Nat.le_refl _)
          have hR : OwnInts w5 w3.heap.size w5.heap.size (some ⟨w3.heap.size, 0, none⟩) [x] := by rw [← hw5]; exact own_block (e := 3) (heap_alloc_new w3 _) (Nat.le_refl _)
          have hm5 := HM3.out.keep (Nat.le_refl _) hb35
          obtain ⟨⟨yy, hcy⟩, hfy⟩ := hm5.cell hpos
          have hset := HM3.out.setHead (c := 1) (Nat.le_refl _) hb35 hR (Nat.le_refl _) hpos (by omega)
          have hrd5 := hrd3.own hg35 (by simp)
          have hrdS := hrd5.own (g_set (World.grownBy.refl w5 (some gH)) (0 + 0) (.slice (some ⟨w3.heap.size, 0, none⟩) [x].length 1)) (fun i hi => by injection hi with hi; omega)
          have HF := Lib.hid (And.intro hset (And.intro (grown_own HG3.out (g_set (g_wide hg35 (some gH)) (0 + 0) (.slice (some ⟨w3.heap.size, 0, none⟩) [x].length 1)) (fun i hi => by injection hi with hi; omega)) hrdS))
          clear hm5 hset hrdS hrd5 hg35 hb35 hR hrd3 hm3 hg3 hrd2
          rw [Nat.add_zero] at hcy hfy
          go_wp2
          go_ret
          exact ⟨some ⟨gH, 0, none⟩, c, rs.set 0 [x], by rw [List.length_set]; rfl, by rw [List.length_set]; exact hl5, by rw [List.length_set]; exact hcap, HTW.out.set (by simp), HF.out.1.more (by simp [World.setCell]), ⟨_, by omega, (HF.out.2.2)⟩, HF.out.2.1⟩
        · have hyy : (y == 0) = false := beq_eq_false_iff_ne.2 hy0
          clear hy0
          go_wp2
          go_ret
          exact ⟨_, c, rs, rfl, hl5, hcap, HTW.out, H2.out.1, ⟨_, by omega, hrd2⟩, H2.out.2⟩
end Go.Proofs.Ytldbefmiabgkhab
