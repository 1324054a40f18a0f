/- The walk of the law FnOfficeOf. No condition. -/
import Derived.Test.YtlmcclbikljbhaaQ13
import Derived.Test.YtlmcclbikljbhaaQ12
namespace Go.Proofs.Ytlmcclbikljbhaa
open Go.RowKit

theorem any_take {α : Type} {zs : List α} {p : α → Bool} {k : Nat} (hk : k < zs.length) : (zs.take (k + 1)).any p = ((zs.take k).any p || p zs[k]) := by
  rw [List.take_succ_eq_append_getElem hk, List.any_append]; simp
theorem cutT (s : ByteArray) (k : Nat) (h : k ≤ s.size) (W : World) : (Instr.slice 9 (.string s) none (some (.int .i64 (k : Int))) none).run Try.prog W = .ok (.string (s.extract 0 k)) W := by
  have h1 : (0 : Int) ≤ (k : Int) := by omega
  have h2 : (k : Int) ≤ (s.size : Int) := by omega
  have h3 := Try.underlying9
  go_simp

set_option maxRecDepth 100000 in
set_option maxHeartbeats 4000000 in
theorem officeOf_law (A : Option Addr) (c : Nat) (zs : List Int) (w : World) (hr : Own w 0 w.heap.size A (zs.map (Value.int .u8))) (hx : zs.length ≤ c ∧ c ≤ maxLen ∧ ∀ z ∈ zs, (Lit.int .u8 z).wf = true) :
    Calls Try.prog 5 #[.slice A zs.length c] w fun e w' => e = .returned (.bool true) ∧ Below w.heap.size w w' := by
  have hl : zs.length ≤ 9223372036854775807 := by have := hx.1; have := hx.2.1; unfold maxLen at this; omega
  obtain ⟨i0, hi0, hz0, hz1, hz2⟩ := info_parts Try.infoQ
  have HX := Lib.hid hx
  clear hx
  by_cases h20 : zs.length ≤ 1048576
  · go_enter Try.func5, Try.ntmps5
    go_wp2_with fail
    refine (drawOfficeOf_any _ _ _ _ hr HX.out).mono ?_
    rintro e w1 ⟨A1, c1, rs, s, rfl, hs6, h8, hdc, htw, ho, hb1⟩
    have HM := Lib.hid (show ∀ r ∈ rs, r.1.size ≤ 1048576 from fun r h => by have := htw r h; omega)
    clear htw
    obtain ⟨q, hq⟩ : ∃ q, officeP rs s = q := ⟨_, rfl⟩
    have HQ := Lib.hid hq
    have hqq : (q != q) = false := by simp
    have hqe : (q == q) = true := by simp
    clear hq
    go_wp2_with fail
    refine (impOfficeOf_any _ _ _ _ _ ho hdc (by omega) HM.out).mono ?_
    rintro e w2 ⟨rfl, hb2⟩
    rw [HQ.out]
    have ho2 := ho.past hb2
    go_wp2_with fail
    refine (specOfficeOf_any _ _ _ _ _ ho2 (by omega) (by omega) HM.out).mono ?_
    rintro e w3 ⟨rfl, n3, hw3⟩
    rw [HQ.out]
    have hb3 : Below w2.heap.size w2 w3 := by rw [hw3]; exact below_drewN (Below.refl _ _) n3
    have ho3 := ho2.past hb3
    have hb13 := (hb1.trans (hb2.mono hb1.size)).trans (hb3.mono (Nat.le_trans hb1.size hb2.size))
    clear hw3 ho ho2
    by_cases hneg : q < 0
    · go_wp2_with fail
      refine (specOfficeOf_any _ _ _ _ _ ho3 (by omega) (by omega) HM.out).mono ?_
      rintro e w4 ⟨rfl, n4, hw4⟩
      rw [HQ.out]
      have hb4 : Below w3.heap.size w3 w4 := by rw [hw4]; exact below_drewN (Below.refl _ _) n4
      clear hw4
      go_wp2_with fail
      go_ret
      exact ⟨rfl, hb13.trans (hb4.mono hb13.size)⟩
    · have hq0 : 0 ≤ q := by omega
      obtain ⟨hv, hf⟩ := officeP_nn (rs := rs) (s := s) (by rw [HQ.out]; exact hq0)
      have HREV := Lib.hid (show officeP rs.reverse s = q by rw [officeP_rev hv hf, HQ.out])
      have HFND := Lib.hid (officeP_found HQ.out hq0)
      have hs4 : s.size = 4 := by simp only [fourB, Bool.and_eq_true, decide_eq_true_eq] at hf; exact hf.2
      have hs4' : 4 ≤ s.size := by omega
      have HOK := Lib.hid (routesB_iff.1 hv).2.1
      have hst : (w3.alloc (.cells #[] 38)).ownsRow w3.heap.size 38 2 (.slice (some ⟨w3.heap.size, 0, none⟩) 0 0) 0 (flat (rs.reverse.take 0)) := World.ownsRow_lit w3 #[] 0 (Nat.le_refl _) (by simp [maxLen]) rfl
      have HST := Lib.hid (And.intro hst (World.grownBy_alloc w3 (.cells #[] 38) none))
      have HB13 := Lib.hid hb13
      have hz13 := hb13.size
      clear hneg hv hf hs4 hst hqq hb13 hb1 hb2 hb3
      go_wp2
      go_loopw [6, 7, 8] (fun v f i wr => ∃ (k : Nat) (H : Option Addr) (cH : Nat), k ≤ rs.length ∧ i = .int .i64 ((rs.length : Int) - 1 - k) ∧ v = .slice H k cH ∧ f = .bool ((rs.reverse.take k).any (fun r => bg s r.1 && r.2 == q)) ∧ wr.ownsRow w3.heap.size 38 2 (.slice H k cH) k (flat (rs.reverse.take k)) ∧ w3.grownBy wr none) (fun _ _ i _ => (intOf i + 1).toNat)
      case atStart => exact ⟨0, _, 0, by omega, by go_num, rfl, by simp, HST.out.1, HST.out.2⟩
      case round =>
        obtain ⟨k, H, cH, hk, rfl, rfl, rfl, hown, hgr⟩ := hrel
        clear HST
        have HG := Lib.hid hgr
        have hgz := hgr.size
        by_cases hlt : k < rs.length
        · obtain ⟨d, hd⟩ : ∃ d, rs.length - 1 - k = d := ⟨_, rfl⟩
          have hdl : d < rs.length := by omega
          have hrk : rs.reverse[k]'(by simp; omega) = rs[d] := by rw [List.getElem_reverse]; congr 1
          have HTK := Lib.hid (List.take_succ_eq_append_getElem (show k < rs.reverse.length by simp; omega))
          have HAT := Lib.hid (any_take (p := fun r : ByteArray × Int => bg s r.1 && r.2 == q) (show k < rs.reverse.length by simp; omega))
          have hor := ho3.below (below_g hgr (Nat.le_refl _))
          obtain ⟨b, o, rfl, hb, hcc⟩ := hor.open (by rw [flat_length]; omega)
          obtain ⟨hc1, hc2⟩ := routes_at hcc hdl
          have hok := HOK.out _ (List.getElem_mem hdl)
          obtain ⟨h, hhe⟩ : ∃ h, rs[d].1 = h := ⟨_, rfl⟩
          obtain ⟨g, hge⟩ : ∃ g, rs[d].2 = g := ⟨_, rfl⟩
          have hrd2 : rs[d] = (h, g) := by rw [← hhe, ← hge]
          have HRD := Lib.hid (show rs.reverse[k]'(by simp; omega) = (h, g) by rw [hrk, hrd2])
          rw [hhe] at hc1
          rw [hge] at hc2
          have hh4 : h.size ≤ 4 := by rw [← hhe]; exact hok.1
          have hidx : (rs.length : Int) - 1 - (k : Int) = (d : Int) := by omega
          have HD := Lib.hid hidx
          rw [hidx]
          have hdI : (d : Int) < rs.length := by omega
          have hd0 : (0 : Int) ≤ (d : Int) := by omega
          have hdN : decide (d < rs.length) = true := decide_eq_true hdl
          obtain ⟨F, hF⟩ : ∃ F, (rs.reverse.take k).any (fun r => bg s r.1 && r.2 == q) = F := ⟨_, rfl⟩
          have HF := Lib.hid hF
          rw [hF]
          clear hcc hhe hge hrd2 hrk hidx hd hok hF hgr
          go_wp2_with (at_builtin; refine wpList_push rfl (.tmp 43) (.tmp 48) 31 rfl i0 (.agg #[.string ⟨#[]⟩, .int .i64 0]) 24 Try.underlying31 hi0 hz0 hz1 hz2 rfl (by decide) _ _ rfl hown [.string h, .int .i64 g] rfl rfl (by simp [Value.oneCell']) (by omega) (by omega) HG.out.size ?_)
          intro H' cH' w5 hown5 hg5
          have hg35 := g_new HG.out hg5 (fun i hi => (hown.lt _ hi).1)
          have q1 : w5.cell? ⟨b, o + d * 2, none⟩ = some (.string h) := by
            have hbb : Below wr.heap.size wr w5 → w5.cell? ⟨b, o + d * 2, none⟩ = some (.string h) := fun hb' => cell_stay hb' (by omega) hc1
            have := hg5.block b (by omega) (fun e => by have := (hown.lt _ e.symm).1; omega)
            exact (World.cell?_of_block (a := ⟨b, o + d * 2, none⟩) this).trans hc1
          have q2 : w5.cell? ⟨b, o + d * 2 + 1, none⟩ = some (.int .i64 g) := by
            have := hg5.block b (by omega) (fun e => by have := (hown.lt _ e.symm).1; omega)
            exact (World.cell?_of_block (a := ⟨b, o + d * 2 + 1, none⟩) this).trans hc2
          have HW5 := Lib.hid (And.intro hown5 hg35)
          have hcut := cutT s h.size (by omega)
          clear hown hown5 hg5 hg35 hc1 hc2
          cases F with
          | true =>
            go_wp2
            go_quiet (fail)
            clear hcut
            go_simp
            go_wp2
            go_roundw
            case rel =>
              refine ⟨k + 1, H', cH', by omega, by have := HD.out; exact congrArg (Value.int .i64) (by omega), rfl, by rw [HAT.out, HF.out]; rfl, ?_, ?_⟩
              · rw [HTK.out, HRD.out, flat_append]; exact HW5.out.1
              · obtain ⟨t1, t2, t3, t4, t5⟩ := HW5.out.2; exact ⟨t1, t2, t3, t4, t5⟩
            case measure => simp [intOf]
          | false =>
            by_cases he : ((s.extract 0 h.size).toList == h.toList) = true
            · have HBG := Lib.hid (show bg s h = true by simp only [bg, he, decide_eq_true (show h.size ≤ s.size by omega), Bool.and_self])
              go_wp2
              go_quiet (fail)
              clear hcut he
              go_simp
              go_wp2
              go_roundw
              case rel =>
                refine ⟨k + 1, H', cH', by omega, by have := HD.out; exact congrArg (Value.int .i64) (by omega), rfl, by rw [HAT.out, HF.out, HRD.out]; simp only [HBG.out, Bool.true_and, Bool.false_or], ?_, ?_⟩
                · rw [HTK.out, HRD.out, flat_append]; exact HW5.out.1
                · obtain ⟨t1, t2, t3, t4, t5⟩ := HW5.out.2; exact ⟨t1, t2, t3, t4, t5⟩
              case measure => simp [intOf]
            · have he' : ((s.extract 0 h.size).toList == h.toList) = false := by simpa using he
              have HBG := Lib.hid (show bg s h = false by simp only [bg, he', Bool.and_false])
              clear he
              go_wp2
              go_quiet (fail)
              clear hcut he'
              go_simp
              go_wp2
              go_roundw
              case rel =>
                refine ⟨k + 1, H', cH', by omega, by have := HD.out; exact congrArg (Value.int .i64) (by omega), rfl, by rw [HAT.out, HF.out, HRD.out]; simp only [HBG.out, Bool.false_and, Bool.false_or], ?_, ?_⟩
                · rw [HTK.out, HRD.out, flat_append]; exact HW5.out.1
                · obtain ⟨t1, t2, t3, t4, t5⟩ := HW5.out.2; exact ⟨t1, t2, t3, t4, t5⟩
              case measure => simp [intOf]
        · have hk' : k = rs.length := by omega
          have hT : (rs.reverse.take k).any (fun r => bg s r.1 && r.2 == q) = true := by
            rw [hk', List.take_of_length_le (by simp), List.any_reverse]; exact HFND.out
          have hfl : flat (rs.reverse.take k) = flat rs.reverse := by rw [hk', List.take_of_length_le (by simp)]
          rw [hfl] at hown
          rw [hT]
          have hi := impOfficeOf_any H cH rs.reverse s wr (own_rowS hown).row (by have := own_cap hown; rw [List.length_reverse]; omega) (by rw [List.length_reverse]; omega) (fun r hr => HM.out r (List.mem_reverse.1 hr))
          rw [List.length_reverse, HREV.out, ← hk'] at hi
          have HI := Lib.hid hi
          have HBF := Lib.hid (HB13.out.trans ((below_g HG.out (Nat.le_refl _)).mono hz13))
          clear hT hfl hown hgr hi hk'
          go_wp2_with fail
          refine HI.out.mono ?_
          rintro e w6 ⟨rfl, hb6⟩
          go_wp2_with fail
          go_ret
          exact ⟨rfl, HBF.out.trans (hb6.mono HBF.out.size)⟩
  · go_enter Try.func5, Try.ntmps5
    go_wp2
    go_ret
    exact ⟨rfl, Below.refl _ _⟩
end Go.Proofs.Ytlmcclbikljbhaa
