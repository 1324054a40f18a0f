/- SortPasses: contract of impl. No condition. -/
import Derived.Test.YtdgdlmpmoafkgaaSq
import Derived.Test.YtdgdlmpmoafkgaaP2
namespace Go.Proofs.Ytdgdlmpmoafkgaa
open Go.RowKit

theorem cloneInts_any (A : Option Addr) (c : Nat) (zs : List Int) (w : World) (hr : Ints w w.heap.size A zs) (hl : zs.length ≤ 1000000) :
    Calls Try.prog 45 #[.slice A zs.length c] w fun e w' => ∃ A' c', e = .returned (.slice A' zs.length c') ∧ zs.length ≤ c' ∧ OwnInts w' w.heap.size w'.heap.size A' zs ∧ Below w.heap.size w w' := by
  by_cases h0 : zs = []
  · subst h0
    cases A with
    | none =>
      refine (Try.slices_Clone_int_nil 0 c w).mono ?_
      rintro e w' ⟨rfl, rfl⟩
      exact ⟨none, 0, rfl, by simp, .inl rfl, Below.refl _ _⟩
    | some a =>
      refine (Try.slices_Clone_int_zero a c w).mono ?_
      rintro e w' ⟨v', rfl, ho, _, hb⟩
      obtain ⟨A', c', rfl⟩ := own_form ho
      exact ⟨A', c', rfl, own_cap ho, .inl rfl, hb⟩
  · obtain ⟨b, o, rfl, _, hc⟩ := hr.open (by simp; exact List.length_pos_iff.2 h0)
    refine (Try.slices_Clone_int b o zs.length c zs w (Nat.le_refl _) (by omega) (fun j hj => by rw [getD_get hj]; exact ints_at hc hj)).mono ?_
    rintro e w' ⟨v', rfl, ho, _, hb⟩
    rw [List.take_length] at ho
    obtain ⟨A', c', rfl⟩ := own_form ho
    exact ⟨A', c', rfl, own_cap ho, own_row_cells ho, hb⟩

theorem boxesP_set {zs now : List Int} {k p n : Nat} (hn : n < now.length) {g : Nat} (hg : digN zs k p now[n].toNat = g) :
    (tab now.length (fun j => if j < n then (boxesP zs k p now).getD j 0 else 0)).set n (g : Int) = tab now.length (fun j => if j < n + 1 then (boxesP zs k p now).getD j 0 else 0) := by
  refine tab_set' fun j hj => ?_
  by_cases e : j = n
  · subst e
    rw [if_pos (by omega), if_pos rfl, getD_get (by rw [boxesP_len]; exact hj)]
    simp only [boxesP, List.getElem_map, hg]
  · rw [if_neg e]
    by_cases h : j < n
    · rw [if_pos h, if_pos (by omega)]
    · rw [if_neg h, if_neg (by omega)]
theorem boxesP_tab (zs now : List Int) (k p : Nat) : tab now.length (fun j => if j < now.length then (boxesP zs k p now).getD j 0 else 0) = boxesP zs k p now := by
  apply List.ext_getElem
  · rw [tab_length, boxesP_len]
  · intro i h1 h2
    rw [tab_length] at h1
    rw [tab_get h1, if_pos h1, getD_get h2]

set_option maxRecDepth 100000 in
set_option maxHeartbeats 8000000 in
theorem impSort_yes (A : Option Addr) (c : Nat) (zs : List Int) (k : Nat) (w : World) (hr : Ints w w.heap.size A zs) (hlc : zs.length ≤ c) (hv : rowB 9 zs = true) (hk : 2 ≤ k) (hk4 : k ≤ 4) :
    Calls Try.prog 22 #[.slice A zs.length c, .int .i64 k] w (gridRes w (sortR zs k (passN (runsNat zs) k))) := by
  obtain ⟨i0, hi0, hz0, hz1, hz2⟩ := info_parts Try.info3
  obtain ⟨iR, hiR, hR0, hR1, hR2⟩ := info_parts Try.infoR
  have hl9 := rowB_len hv
  have hva := fun W h => impValidRow_any A c zs W h hlc
  rw [hv] at hva
  have hir := fun W => canSort_any (k : Int) W
  rw [show inR (k : Int) 2 4 = true by simp [inR]; omega] at hir
  have hfp := fun W h => impFewest_any A c zs (k : Int) W h hlc
  rw [fewN_yes hv (show inR (k : Int) 2 4 = true by simp [inR]; omega)] at hfp
  have hm4 := passN_le (runsNat zs) k
  obtain ⟨m, hm⟩ : ∃ m, passN (runsNat zs) k = m := ⟨_, rfl⟩
  rw [hm] at hfp hm4 ⊢
  have HV := Lib.hid hv
  have HVA := Lib.hid hva
  have HIR := Lib.hid hir
  have HFP := Lib.hid hfp
  clear hv hva hir hfp hm
  go_enter Try.func22, Try.ntmps22
  go_wp2_with fail
  refine (HVA.out _ hr).mono ?_
  rintro e w' ⟨rfl, rfl⟩
  go_wp2_with fail
  refine (HIR.out _).mono ?_
  rintro e w' ⟨rfl, rfl⟩
  go_wp2_with fail
  refine (runOfLetters_any A c zs w hr HV.out).mono ?_
  rintro e w1 ⟨Ru, cu, rfl, hu, b1⟩
  have z1 := b1.size
  have hr1 := hr.past b1
  go_wp2_with fail
  refine (cloneInts_any A c zs w1 hr1 (by omega)).mono ?_
  rintro e w2 ⟨A2, c2, rfl, hc2, ho2, b12⟩
  have z2 := b12.size
  have b2 := b1.trans (b12.mono z1)
  have hu2 := hu.row.keep (Nat.le_refl _) b12
  have hr2 := (hr.keep (Nat.le_refl _) b1).keep z1 b12
  have hbl := Built.first (R := A2) (cR := c2) ho2 hc2 z2
  have b23 : Below w2.heap.size w2 (w2.alloc (.cells #[.slice A2 zs.length c2] 22)) := (Below.refl _ _).alloc (Nat.le_refl _) _
  have ho3 := ho2.past b23
  have hu3 := hu2.keep z2 b23
  have hr3 := hr2.keep (by omega) b23
  have b3 := b2.trans (b23.mono (by omega))
  have z3 : w1.heap.size ≤ (w2.alloc (.cells #[.slice A2 zs.length c2] 22)).heap.size := by simp; omega
  have z3' : w.heap.size ≤ (w2.alloc (.cells #[.slice A2 zs.length c2] 22)).heap.size := by omega
  clear hu hu2 hr1 hr2 b23 b1 b12 b2 hr ho2
  go_wp2_with fail
  refine (HFP.out _ (hr3.more z3')).mono ?_
  rintro e w4 ⟨rfl, b34⟩
  have H0 := Lib.hid (And.intro (hbl.keep b34) (And.intro (ho3.past b34) (And.intro (hu3.keep z3 b34) (And.intro (b3.trans (b34.mono z3')) (Nat.le_trans z3 b34.size)))))
  have HC2 := Lib.hid hc2
  clear hc2 hbl ho3 hu3 hr3 b3 z3 z3' b34
  go_wp2
  go_loopw [6, 7, 8, 29] (fun now out pw i wr => ∃ (p : Nat) (H R : Option Addr) (cH cR : Nat) (hs : List Value), p ≤ m ∧ i = .int .i64 p ∧ pw = .int .i64 ((k ^ p : Nat) : Int) ∧ now = .slice R zs.length cR ∧ out = .slice H (p + 1) cH ∧ zs.length ≤ cR ∧
      Built wr w1.heap.size H cH hs (sortR zs k p) ∧ OwnInts wr w1.heap.size wr.heap.size R (nowP zs k p) ∧ Ints wr w1.heap.size Ru (runsL zs) ∧ Below w.heap.size w wr ∧ w1.heap.size ≤ wr.heap.size) (fun _ _ _ i _ => m - (intOf i).toNat)
  case atStart => exact ⟨0, _, A2, 1, c2, _, by omega, rfl, rfl, by simp, rfl, HC2.out, H0.out.1, H0.out.2.1, H0.out.2.2.1, H0.out.2.2.2.1, H0.out.2.2.2.2⟩
  case round =>
    clear H0 HC2
    obtain ⟨p, H, R, cH, cR, hs, hp, rfl, rfl, rfl, rfl, hcR, hbl, hnow, hu, hbr, hz1r⟩ := hrel
    have hperm := nowP_perm (zs := zs) (k := k) (by omega) p
    have hrow := rowB_perm hperm HV.out
    have hnl := hperm.length_eq
    have HROW := Lib.hid hrow
    have HNL := Lib.hid hnl
    have hbz := hbr.size
    clear hperm hrow hnl
    obtain ⟨W, hW⟩ : ∃ W : World, W = wr := ⟨_, rfl⟩
    subst hW
    by_cases hlt : p < m
    · have hd1 : decide (p < m) = true := decide_eq_true hlt
      have hP1 : 1 ≤ k ^ p := Nat.pow_pos (by omega)
      have hP2 := pow_le (k := k) (j := p) hk4 (by omega)
      have hP3 := pow_le (k := k) (j := p + 1) hk4 (by omega)
      rw [Nat.pow_succ] at hP3
      obtain ⟨P, hP⟩ : ∃ P, k ^ p = P := ⟨_, rfl⟩
      rw [hP] at hP1 hP2 hP3 ⊢
      have HP := Lib.hid hP
      obtain ⟨now, hnw⟩ : ∃ now, nowP zs k p = now := ⟨_, rfl⟩
      have HNW := Lib.hid hnw
      have hnl := HNL.out
      have hrow := HROW.out
      rw [hnw] at hnow hnl hrow
      have HNL2 := Lib.hid hnl
      have HROW2 := Lib.hid hrow
      have hnl9 : now.length ≤ 9 := by omega
      have hnlz : now.length ≤ zs.length := by omega
      have hH := Lib.hid (And.intro hbl (And.intro hnow (And.intro hu hbr)))
      clear hP hnl hrow hbl hbr hnw
      go_wp2_with (at_make; refine wpList_make_full _ rfl (.tmp 32) (.tmp 32) _ rfl W.heap.size 3 i0 (.int .i64 0) 1 Try.underlying22 hi0 hz0 hz1 _ _ _ _ _ rfl rfl rfl rfl (by rw [hz2]; omega) (by unfold maxLen; omega) (Nat.le_refl _) ?_)
      intro wb hownb hgb
      have bb : Below W.heap.size W wb := (Below.refl _ _).grown hgb (Nat.le_refl _) (by simp)
      have hownb' : wb.ownsRow W.heap.size 3 1 (.slice (some ⟨W.heap.size, 0, none⟩) zs.length zs.length) zs.length ((tab zs.length (fun j => if j < 0 then (boxesP zs k p now).getD j 0 else 0)).map (Value.int .i64)) := by
        have h1 := hownb
        rw [show (madeCells #[Value.int .i64 0] zs.length).toList = (tab zs.length (fun j => if j < 0 then (boxesP zs k p now).getD j 0 else 0)).map (Value.int .i64) by
          rw [toList_madeCells_one, show tab zs.length (fun j => if j < 0 then (boxesP zs k p now).getD j 0 else 0) = List.replicate zs.length 0 from by
            rw [tab_zero]; exact tab_congr fun k hk => if_neg (by omega)]
          simp] at h1
        exact h1
      have HB0 := Lib.hid (And.intro hownb' bb)
      clear hownb hgb hownb' bb
      go_wp2
      go_loopw [36] (fun i wx => ∃ n : Nat, n ≤ zs.length ∧ i = .int .i64 n ∧ wx.ownsRow W.heap.size 3 1 (.slice (some ⟨W.heap.size, 0, none⟩) zs.length zs.length) zs.length ((tab zs.length (fun j => if j < n then (boxesP zs k p now).getD j 0 else 0)).map (Value.int .i64)) ∧ Below W.heap.size W wx) (fun i _ => zs.length - (intOf i).toNat)
      case atStart => exact ⟨0, by omega, rfl, HB0.out.1, HB0.out.2⟩
      case round =>
        obtain ⟨n, hn, rfl, hownb, bb⟩ := hrel
        clear HB0
        by_cases hnl : n < zs.length
        · have hnn : n < now.length := by have := HNL2.out; omega
          obtain ⟨ba, oa, rfl, hba, hca⟩ := (hnow.row.below bb).open (by simp; omega)
          have hcell := ints_at hca hnn
          have hin := (rowB_at HROW2.out hnn).1
          obtain ⟨y, hy⟩ : ∃ y : Nat, now[n] = (y : Int) := ⟨now[n].toNat, by omega⟩
          rw [hy] at hcell hin
          have hyl : y < zs.length := by omega
          obtain ⟨bc, oc, rfl, hbc, hcc⟩ := (hu.below (bb.mono hz1r)).open (by simp [runsL_length]; omega)
          have hcellb := ints_at hcc (show y < (runsL zs).length by rw [runsL_length]; exact hyl)
          rw [runsL_get zs hyl] at hcellb
          have hrl := runNo_le zs y
          have hat := row_cell hownb hnl
          have hfr := hownb.frozenAt n
          rw [if_neg (by omega)] at hat
          have hdg : digN zs k p now[n].toNat = runNo zs y / P % k := by rw [hy]; simp [digN, HP.out]
          obtain ⟨r, hre⟩ : ∃ r, runNo zs y = r := ⟨_, rfl⟩
          rw [hre] at hcellb hrl hdg
          have hq : (r : Int).tdiv (P : Int) = ((r / P : Nat) : Int) := rfl
          obtain ⟨q, hqe⟩ : ∃ q, r / P = q := ⟨_, rfl⟩
          rw [hqe] at hq hdg
          have hmo : (q : Int).tmod (k : Int) = ((q % k : Nat) : Int) := rfl
          obtain ⟨g, hge⟩ : ∃ g, q % k = g := ⟨_, rfl⟩
          rw [hge] at hmo hdg
          have hq9 : q ≤ 9 := by rw [← hqe]; exact Nat.le_trans (Nat.div_le_self _ _) (by omega)
          have hg9 : g ≤ 9 := by rw [← hge]; exact Nat.le_trans (Nat.mod_le _ _) hq9
          have HDG := Lib.hid hdg
          have HON := Lib.hid hownb
          have HBB := Lib.hid bb
          have hp0 : ((P : Int) == 0) = false := beq_eq_false_iff_ne.2 (by omega)
          have hk0 : ((k : Int) == 0) = false := beq_eq_false_iff_ne.2 (by omega)
          have hPne : ¬ P = 0 := by omega
          have hkne : ¬ k = 0 := by omega
          clear hca hcc hy hin hre hqe hge hdg hownb bb
          have e1 : IntKind.i64.wrap (q : Int) = q := IntWalk.i64_in _ (by omega)
          have e2 : IntKind.i64.wrap (g : Int) = g := IntWalk.i64_in _ (by omega)
          go_wp2
          go_roundw
          case rel =>
            refine ⟨n + 1, by omega, by go_num, ?_, HBB.out.setCell (p := ⟨W.heap.size, n, none⟩) (Nat.le_refl _) _⟩
            have h := (HON.out.stored n (.int .i64 (g : Int))).1
            have hse := boxesP_set (zs := zs) (k := k) (p := p) hnn HDG.out
            rw [HNL2.out] at hse
            rw [← List.map_set, hse] at h
            exact h
          case measure => simp [intOf]; omega
        · have hn' : n = zs.length := by omega
          subst hn'
          have htab := boxesP_tab zs now k p
          rw [HNL2.out] at htab
          rw [htab] at hownb
          have hbx := own_row_cells hownb
          obtain ⟨hbl, hnow', hu', hbr⟩ := hH.out
          have zb := bb.size
          have blB := hbl.keep bb
          have nowB := hnow'.past bb
          have uB := hu'.keep hz1r bb
          have bB := hbr.trans (bb.mono hbz)
          have hps := passOf_any R (some ⟨W.heap.size, 0, none⟩) cR zs.length now (boxesP zs k p now) k wr nowB.row hbx.row hnl9 (boxesP_len _ _ _ _) hk4 (boxesP_range (by omega))
          rw [boxesP_len, HNL2.out] at hps
          have hnw2 : passL now (boxesP zs k p now) k = nowP zs k (p + 1) := by rw [← HNW.out]; rfl
          rw [hnw2] at hps
          have hpl : (nowP zs k (p + 1)).length = zs.length := (nowP_perm (zs := zs) (k := k) (by omega) (p + 1)).length_eq
          rw [hpl] at hps
          have HPS := Lib.hid hps
          have HPL := Lib.hid hpl
          have HB1 := Lib.hid (And.intro blB (And.intro uB bB))
          clear hps hpl hnw2 hbx htab hownb hbl hnow' hu' hbr blB uB bB nowB bb hH hnow hu
          go_wp2_with fail
          refine HPS.out.mono ?_
          rintro e wc ⟨R2, cR2, rfl, hcR2, hnew, bc⟩
          have zc := bc.size
          have hownC : wc.ownsRow w1.heap.size 22 1 (.slice H (p + 1) cH) (p + 1) hs := by have := (HB1.out.1.keep bc).1; rwa [sortR_len] at this
          have HN := Lib.hid (And.intro hnew bc)
          clear hnew bc hd1
          go_wp2_with (at_builtin; refine wpList_push_at rfl (.tmp 57) (.tmp 59) 37 rfl iR (.slice none 0 0) 24 Try.underlying37 hiR hR0 hR1 hR2 rfl (by decide) _ _ rfl hownC [.slice R2 zs.length cR2] rfl rfl (by simp [Value.oneCell']) (by omega) (by omega) (by omega) ?_)
          intro H' cH' wd hownD hgD hat
          obtain ⟨hnew, bc⟩ := HN.out
          obtain ⟨blB, uB, bB⟩ := HB1.out
          have hp1 : (sortR zs k p).length = p + 1 := sortR_len zs k p
          have hbuilt := Built.push (R := R2) (cR := cR2) (r := nowP zs k (p + 1)) blB (by omega) bc hnew (by rw [HPL.out]; exact hcR2)
            (by rw [hp1, HPL.out]; exact hownD) (by rw [hp1]; exact hgD) (by rcases hat with h | ⟨a, rfl, h⟩; exact .inl h; exact .inr (by simp [h]))
          have hHlt : ∀ i, (Value.slice H (p + 1) cH).ownBlock = some i → w1.heap.size ≤ i ∧ i < wr.heap.size := fun i hi => by
            rw [slice_block] at hi
            exact blB.1.lt i (by rw [slice_block]; exact hi)
          have hbD : Below w1.heap.size wc wd := (Below.refl _ _).grown hgD (by omega) (fun i hi => (hHlt i hi).1)
          have nowD : OwnInts wd w1.heap.size wd.heap.size R2 (nowP zs k (p + 1)) := ((hnew.apart (Nat.le_refl _) hgD (fun i hi => (hHlt i hi).2)).more hgD.size).less (by omega)
          have hbC : Below w.heap.size w wc := bB.trans (bc.mono (by omega))
          have HFIN := Lib.hid (And.intro hbuilt (And.intro nowD (And.intro ((uB.keep (by omega) bc).below hbD) (And.intro (hbC.trans (hbD.mono z1)) (show w1.heap.size ≤ wd.heap.size by have := hgD.size; omega)))))
          have hm1 : (0 : Int) ≤ (P : Int) * (k : Int) := by rw [← Int.natCast_mul]; omega
          have hm2 : (P : Int) * (k : Int) ≤ 1024 := by rw [← Int.natCast_mul]; omega
          clear hnew blB bc uB bB hp1 hbuilt hownC hownD hgD hat hHlt hbD nowD hbC HN HB1
          go_wp2
          go_roundw
          case rel =>
            exact ⟨p + 1, H', R2, cH', cR2, _, by omega, by go_num, by rw [Nat.pow_succ, HP.out, Int.natCast_mul], rfl, by go_num, hcR2, HFIN.out.1, HFIN.out.2.1, HFIN.out.2.2.1, HFIN.out.2.2.2.1, HFIN.out.2.2.2.2⟩
          case measure => simp [intOf]; omega
    · have hp' : p = m := by omega
      subst hp'
      have hd1 : decide (p < p) = false := by simp
      go_wp2_with fail
      clear hd1
      go_ret
      have hmg := hbl.mgrid
      exact ⟨H, cH, by rw [sortR_len]; rfl, by have := hbl.cap; rwa [sortR_len] at this ⊢, hmg.less (by omega), hbr⟩

set_option maxRecDepth 100000 in
theorem impSort_any (A : Option Addr) (c : Nat) (zs : List Int) (k : Int) (w : World) (hr : Ints w w.heap.size A zs) (hlc : zs.length ≤ c) :
    Calls Try.prog 22 #[.slice A zs.length c, .int .i64 k] w (gridRes w (sortV zs k)) := by
  have hva := impValidRow_any A c zs w hr hlc
  by_cases hv : rowB 9 zs = true
  · by_cases hk : inR k 2 4 = true
    · have hkb : 2 ≤ k ∧ k ≤ 4 := by simpa [inR] using hk
      obtain ⟨m, rfl⟩ := Int.eq_ofNat_of_zero_le (show 0 ≤ k by omega)
      rw [show sortV zs (m : Int) = sortR zs m (passN (runsNat zs) m) by simp [sortV, hv, hk]]
      exact impSort_yes A c zs m w hr hlc hv (by omega) (by omega)
    · have hk' : inR k 2 4 = false := by simpa using hk
      rw [show sortV zs k = [] by simp [sortV, hk']]
      have hir := fun W => canSort_any k W
      rw [hk'] at hir
      rw [hv] at hva
      have HVA := Lib.hid hva
      have HIR := Lib.hid hir
      clear hva hir hk hk' hv
      go_enter Try.func22, Try.ntmps22
      go_wp2_with (first | (go_at_call 18; refine HVA.out.mono ?_; rintro e w' ⟨rfl, rfl⟩) | (go_at_call 44; refine (HIR.out _).mono ?_; rintro e w' ⟨rfl, rfl⟩))
      go_ret
      exact gridRes_nil w
  · have hv' : rowB 9 zs = false := by simpa using hv
    rw [show sortV zs k = [] by simp [sortV, hv']]
    rw [hv'] at hva
    have HVA := Lib.hid hva
    clear hva hv hv'
    go_enter Try.func22, Try.ntmps22
    go_wp2_with (first | (go_at_call 18; refine HVA.out.mono ?_; rintro e w' ⟨rfl, rfl⟩))
    go_ret
    exact gridRes_nil w
end Go.Proofs.Ytdgdlmpmoafkgaa
