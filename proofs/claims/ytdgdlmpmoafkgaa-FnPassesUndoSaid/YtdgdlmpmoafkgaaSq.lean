/- SortPasses: contract of spec. No condition. -/
import Derived.Test.YtdgdlmpmoafkgaaSp
namespace Go.Proofs.Ytdgdlmpmoafkgaa
open Go.RowKit

def gridRes (w0 : World) (V : List (List Int)) (e : Ending) (w' : World) : Prop := ∃ A' c', e = .returned (.slice A' V.length c') ∧ V.length ≤ c' ∧ MGrid w' w0.heap.size w'.heap.size A' V ∧ Below w0.heap.size w0 w'
theorem gridRes_nil (w : World) : gridRes w [] (.returned (.slice none 0 0)) w := ⟨none, 0, rfl, by simp, MGrid.nil _ _ _ _, Below.refl _ _⟩

theorem MGrid.less {w : World} {base base' B : Nat} {A : Option Addr} {rs : List (List Int)} (h : MGrid w base B A rs) (hb : base' ≤ base) : MGrid w base' B A rs := by
  obtain ⟨hs, h1, h2, h3⟩ := h
  exact ⟨hs, h1.less (by omega), h2.less (by omega), h3⟩
theorem own_row_cells {w : World} {base n c : Nat} {A : Option Addr} {xs : List Int} (h : w.ownsRow base 3 1 (.slice A n c) n (xs.map (Value.int .i64))) : OwnInts w base w.heap.size A xs := by
  obtain ⟨A', c', hv, _, ho⟩ := own_of_row h
  simp only [Value.slice.injEq] at hv
  obtain ⟨rfl, _, _⟩ := hv
  exact ho

set_option maxRecDepth 100000 in
set_option maxHeartbeats 4000000 in
theorem specSort_yes (A : Option Addr) (c : Nat) (zs : List Int) (k : Nat) (w : World) (hr : Ints w w.heap.size A zs) (hv : rowB 9 zs = true) (hk : 2 ≤ k) (hk4 : k ≤ 4) :
    Calls Try.prog 23 #[.slice A zs.length c, .int .i64 k] w (gridRes w (sortR zs k (passN (runsNat zs) k))) := by
  obtain ⟨i0, hi0, hz0, hz1, hz2⟩ := info_parts Try.info3
  obtain ⟨iR, hiR, hR0, hR1, hR2⟩ := info_parts Try.infoR
  have hl9 := rowB_len hv
  have hn9 := runsNat_le hv
  have hva := fun W h => specValidRow9_any A c zs W h (by omega)
  rw [hv] at hva
  have hir := fun W => inRange_any (k : Int) 2 4 W
  rw [show inR (k : Int) 2 4 = true by simp [inR]; omega] at hir
  have hro := fun W h => specRunsOf_any A c zs W h (by omega)
  rw [runsN_yes hv] at hro
  have hpf := fun W => passesFor_any (runsNat zs) k W hn9 hk hk4
  have hm4 := passN_le (runsNat zs) k
  obtain ⟨rn, hrn⟩ : ∃ rn, runsNat zs = rn := ⟨_, rfl⟩
  rw [hrn] at hro hpf hm4 ⊢
  obtain ⟨m, hm⟩ : ∃ m, passN rn k = m := ⟨_, rfl⟩
  rw [hm] at hpf hm4 ⊢
  have HV := Lib.hid hv
  have HVA := Lib.hid hva
  have HIR := Lib.hid hir
  have HRO := Lib.hid hro
  have HPF := Lib.hid hpf
  clear hv hva hir hro hpf hm hrn hn9
  go_enter Try.func23, Try.ntmps23
  go_wp2_with fail
  refine (HVA.out _ hr).mono ?_
  rintro e w' ⟨rfl, rfl⟩
  go_wp2_with fail
  refine (HIR.out _).mono ?_
  rintro e w' ⟨rfl, rfl⟩
  go_wp2_with fail
  refine (specRuns_any A c zs w hr HV.out).mono ?_
  rintro e w1 ⟨Ru, cu, rfl, hu, b1⟩
  have z1 := b1.size
  have hr1 := hr.past b1
  have hlit : (w1.alloc (.cells #[] 3)).ownsRow w1.heap.size 3 1 (.slice (some ⟨w1.heap.size, 0, none⟩) 0 0) 0 [] := World.ownsRow_lit w1 #[] 0 (Nat.le_refl _) (by simp [maxLen]) rfl
  have b1a : Below w1.heap.size w1 (w1.alloc (.cells #[] 3)) := (Below.refl _ _).alloc (Nat.le_refl _) _
  go_wp2_with (at_builtin; refine wpList_extend rfl (.tmp 19) (.tmp 20) 22 rfl i0 (.int .i64 0) 8 Try.underlying22 hi0 hz0 hz1 hz2 rfl (by decide) _ _ rfl hlit A zs.length c w1.heap.size (zs.map (Value.int .i64)) rfl (by simp) (hr1.below b1a) (fun u hu => by obtain ⟨z, _, rfl⟩ := List.mem_map.1 hu; rfl) (by omega) (by omega) (by simp) ?_)
  intro A2 c2 w2 hown2 hg2
  have b12 : Below w1.heap.size w1 w2 := b1a.grown hg2 (by simp) (fun i hi => (hlit.lt _ hi).1)
  have hown2' : w2.ownsRow w1.heap.size 3 1 (.slice A2 zs.length c2) zs.length (zs.map (Value.int .i64)) := by simpa using hown2
  have hc2 := own_cap hown2'
  have ho2 := own_row_cells hown2'
  have z2 := b12.size
  have b2 := b1.trans (b12.mono z1)
  have hu2 := hu.row.keep (Nat.le_refl _) b12
  have hr2 := (hr.keep (Nat.le_refl _) b1).keep z1 b12
  have hbl := Built.first (R := A2) (cR := c2) ho2 hc2 z2
  have b23 : Below w2.heap.size w2 (w2.alloc (.cells #[.slice A2 zs.length c2] 22)) := (Below.refl _ _).alloc (Nat.le_refl _) _
  have ho3 := ho2.past b23
  have hu3 := hu2.keep z2 b23
  have hr3 := hr2.keep (by omega) b23
  have b3 := b2.trans (b23.mono (by omega))
  have H0 := Lib.hid (And.intro hbl (And.intro ho3 (And.intro hu3 (And.intro hr3 (And.intro b3 (show w1.heap.size ≤ (w2.alloc (.cells #[.slice A2 zs.length c2] 22)).heap.size by simp; omega))))))
  have HC2 := Lib.hid hc2
  clear hlit b1a hown2 hown2' hg2 hc2 ho2 hu hu2 hr1 hr2 hbl b23 ho3 hu3 hr3 b3 b12 b1 b2 hr
  go_wp2
  go_loopw [6, 7, 8] (fun now out i wr => ∃ (p : Nat) (H R : Option Addr) (cH cR : Nat) (hs : List Value), p ≤ m ∧ i = .int .i64 p ∧ now = .slice R zs.length cR ∧ out = .slice H (p + 1) cH ∧ zs.length ≤ cR ∧
      Built wr w1.heap.size H cH hs (sortR zs k p) ∧ OwnInts wr w1.heap.size wr.heap.size R (nowP zs k p) ∧ Ints wr w1.heap.size Ru (runsL zs) ∧ Ints wr w.heap.size A zs ∧ Below w.heap.size w wr ∧ w1.heap.size ≤ wr.heap.size) (fun _ _ i _ => m - (intOf i).toNat)
  case atStart => exact ⟨0, _, A2, 1, c2, _, by omega, rfl, by simp, rfl, HC2.out, H0.out.1, H0.out.2.1, H0.out.2.2.1, H0.out.2.2.2.1, H0.out.2.2.2.2.1, H0.out.2.2.2.2.2⟩
  case round =>
    clear H0 HC2
    obtain ⟨p, H, R, cH, cR, hs, hp, rfl, rfl, rfl, hcR, hbl, hnow, hu, hrr, hbr, hz1r⟩ := hrel
    have hperm := nowP_perm (zs := zs) (k := k) (by omega) p
    have hrow := rowB_perm hperm HV.out
    have hnl := hperm.length_eq
    have HROW := Lib.hid hrow
    have HNL := Lib.hid hnl
    have hbz := hbr.size
    clear hperm hrow hnl
    go_wp2_with fail
    refine (HRO.out _ (hrr.more hbz)).mono ?_
    rintro e wa ⟨rfl, ba⟩
    have za := ba.size
    have blA := hbl.keep ba
    have nowA := hnow.past ba
    have uA := hu.keep hz1r ba
    have rA := hrr.keep hbz ba
    have bA := hbr.trans (ba.mono (by omega))
    clear hbl hnow hu hrr hbr ba
    go_wp2_with fail
    refine (HPF.out _).mono ?_
    rintro e w' ⟨rfl, rfl⟩
    by_cases hlt : p < m
    · have hd1 : decide (p < m) = true := decide_eq_true hlt
      have hbx := boxesAt_any R Ru cR cu (nowP zs k p) zs k p wa nowA.row (uA.more (by omega)) HROW.out HV.out HNL.out hk hk4 (by omega)
      rw [HNL.out] at hbx
      have HBX := Lib.hid hbx
      clear hbx
      go_wp2_with fail
      refine HBX.out.mono ?_
      rintro e wb ⟨Bx, cB, rfl, hbx, bb⟩
      have zb := bb.size
      have blB := blA.keep bb
      have nowB := nowA.past bb
      have uB := uA.keep (by omega) bb
      have rB := rA.keep (by omega) bb
      have bB := bA.trans (bb.mono (by omega))
      have hps := specPass_any R Bx cR cB (nowP zs k p) (boxesP zs k p (nowP zs k p)) k wb nowB.row hbx.row (by rw [HNL.out]; exact hl9) (boxesP_len _ _ _ _) hk4
      rw [boxesP_len, HNL.out] at hps
      have hpl : (passL (nowP zs k p) (boxesP zs k p (nowP zs k p)) k).length = zs.length := (nowP_perm (zs := zs) (k := k) (by omega) (p + 1)).length_eq
      rw [hpl] at hps
      have HPS := Lib.hid hps
      have HPL := Lib.hid hpl
      clear hps hpl blA nowA uA rA bA bb hbx
      go_wp2_with fail
      refine HPS.out.mono ?_
      rintro e wc ⟨R2, cR2, rfl, hcR2, hnew, bc⟩
      have zc := bc.size
      have blC := blB.keep bc
      have uC := uB.keep (by omega) bc
      have rC := rB.keep (by omega) bc
      have bC := bB.trans (bc.mono (by omega))
      have hownC : wc.ownsRow w1.heap.size 22 1 (.slice H (p + 1) cH) (p + 1) hs := by have := blC.1; rwa [sortR_len] at this
      have HN := Lib.hid (And.intro hnew (And.intro blB (And.intro bc (And.intro uC (And.intro rC bC)))))
      clear hnew blB blC bc uB uC rB rC bB bC nowB hd1
      go_wp2_with (at_builtin; refine wpList_push_at rfl (.tmp 40) (.tmp 42) 37 rfl iR (.slice none 0 0) 24 Try.underlying37 hiR hR0 hR1 hR2 rfl (by decide) _ _ rfl hownC [.slice R2 zs.length cR2] rfl rfl (by simp [Value.oneCell']) (by omega) (by omega) (by omega) ?_)
      intro H' cH' wd hownD hgD hat
      obtain ⟨hnew, blB, bc, uC, rC, bC⟩ := HN.out
      have hp1 : (sortR zs k p).length = p + 1 := sortR_len zs k p
      have hbuilt := Built.push (R := R2) (cR := cR2) (r := nowP zs k (p + 1)) blB (by omega) bc hnew (by rw [show (nowP zs k (p + 1)).length = zs.length from HPL.out]; exact hcR2)
        (by rw [hp1, show (nowP zs k (p + 1)).length = zs.length from HPL.out]; exact hownD) (by rw [hp1]; exact hgD) (by rcases hat with h | ⟨a, rfl, h⟩; exact .inl h; exact .inr (by simp [h]))
      have hHlt : ∀ i, (Value.slice H (p + 1) cH).ownBlock = some i → w1.heap.size ≤ i ∧ i < wb.heap.size := fun i hi => by
        rw [slice_block] at hi
        exact blB.1.lt i (by rw [slice_block]; exact hi)
      have hbD : Below w1.heap.size wc wd := (Below.refl _ _).grown hgD (by omega) (fun i hi => (hHlt i hi).1)
      have nowD : OwnInts wd w1.heap.size wd.heap.size R2 (nowP zs k (p + 1)) := ((hnew.apart (Nat.le_refl _) hgD (fun i hi => (hHlt i hi).2)).more hgD.size).less (by omega)
      have HFIN := Lib.hid (And.intro hbuilt (And.intro nowD (And.intro (uC.below hbD) (And.intro (rC.below (hbD.mono z1)) (And.intro (bC.trans (hbD.mono z1)) (show w1.heap.size ≤ wd.heap.size by have := hgD.size; omega))))))
      clear hnew blB bc uC rC bC hp1 hbuilt hownC hownD hgD hat hHlt hbD nowD
      go_wp2
      go_roundw
      case rel =>
        exact ⟨p + 1, H', R2, cH', cR2, _, by omega, by go_num, rfl, by go_num, hcR2, HFIN.out.1, HFIN.out.2.1, HFIN.out.2.2.1, HFIN.out.2.2.2.1, HFIN.out.2.2.2.2.1, HFIN.out.2.2.2.2.2⟩
      case measure => simp [intOf]; omega
    · have hp' : p = m := by omega
      subst hp'
      have hd1 : decide (p < p) = false := by simp
      go_wp2_with fail
      clear hd1
      go_ret
      have hmg := blA.mgrid
      exact ⟨H, cH, by rw [sortR_len]; rfl, by have := blA.cap; rwa [sortR_len] at this ⊢, hmg.less (by omega), bA⟩

set_option maxRecDepth 100000 in
theorem specSort_any (A : Option Addr) (c : Nat) (zs : List Int) (k : Int) (w : World) (hr : Ints w w.heap.size A zs) (hl : zs.length ≤ 9000000000000000000) :
    Calls Try.prog 23 #[.slice A zs.length c, .int .i64 k] w (gridRes w (sortV zs k)) := by
  have hva := specValidRow9_any A c zs w hr hl
  by_cases hv : rowB 9 zs = true
  · by_cases hk : inR k 2 4 = true
    · have hkb : 2 ≤ k ∧ k ≤ 4 := by simpa [inR] using hk
      obtain ⟨m, rfl⟩ := Int.eq_ofNat_of_zero_le (show 0 ≤ k by omega)
      rw [show sortV zs (m : Int) = sortR zs m (passN (runsNat zs) m) by simp [sortV, hv, hk]]
      exact specSort_yes A c zs m w hr hv (by omega) (by omega)
    · have hk' : inR k 2 4 = false := by simpa using hk
      rw [show sortV zs k = [] by simp [sortV, hk']]
      have hir := fun W => inRange_any k 2 4 W
      rw [hk'] at hir
      rw [hv] at hva
      have HVA := Lib.hid hva
      have HIR := Lib.hid hir
      clear hva hir hk hk' hv
      go_enter Try.func23, Try.ntmps23
      go_wp2_with (first | (go_at_call 32; refine HVA.out.mono ?_; rintro e w' ⟨rfl, rfl⟩) | (go_at_call 47; refine (HIR.out _).mono ?_; rintro e w' ⟨rfl, rfl⟩))
      go_ret
      exact gridRes_nil w
  · have hv' : rowB 9 zs = false := by simpa using hv
    rw [show sortV zs k = [] by simp [sortV, hv']]
    rw [hv'] at hva
    have HVA := Lib.hid hva
    clear hva hv hv'
    go_enter Try.func23, Try.ntmps23
    go_wp2_with (first | (go_at_call 32; refine HVA.out.mono ?_; rintro e w' ⟨rfl, rfl⟩))
    go_ret
    exact gridRes_nil w
end Go.Proofs.Ytdgdlmpmoafkgaa
