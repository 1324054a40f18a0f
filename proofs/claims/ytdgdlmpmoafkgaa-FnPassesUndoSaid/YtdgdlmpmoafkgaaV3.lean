/- The walk of the law FnPassesUndo. No condition. -/
import Derived.Test.YtdgdlmpmoafkgaaSv
import Derived.Test.YtdgdlmpmoafkgaaV2
namespace Go.Proofs.Ytdgdlmpmoafkgaa
open Go.RowKit

theorem own_boxes {zs : List Int} (h : rowB 9 zs = true) (i : Nat) (hi : i < zs.length) : 0 ≤ zs[i] ∧ zs[i] < (zs.length : Int) := (rowB_at h hi).1
theorem boxOf_self {zs : List Int} (h : rowB 9 zs = true) {x : Nat} (hx : x < zs.length) : boxOf zs zs x = x := by
  have hl := pl_lt h hx
  have hg := pl_get h hx
  unfold boxOf
  rw [getD_get hl, hg]
  simp
theorem pass_own {zs : List Int} (h : rowB 9 zs = true) : passL zs zs zs.length = tab zs.length (fun j => (j : Int)) := by
  have hp := pass_perm (zs := zs) (bs := zs) rfl (own_boxes h)
  have hrow := rowB_perm hp h
  have hl := hp.length_eq
  have := sorted_of hrow (fun x y hxy hy => by
    have hy' : y < zs.length := by omega
    refine (pass_order h rfl (own_boxes h) (show x < zs.length by omega) hy' (by omega)).2 (.inl ?_)
    rw [boxOf_self h (by omega), boxOf_self h hy']
    exact hxy)
  rwa [hl] at this
theorem passV_own {zs : List Int} (h : rowB 9 zs = true) (h1 : 1 ≤ zs.length) (h4 : zs.length ≤ 4) : passV zs zs (zs.length : Int) = tab zs.length (fun j => (j : Int)) := by
  have hb : boxB zs zs (zs.length : Int) = true := by
    simp only [boxB, Bool.and_eq_true, decide_eq_true_eq, List.all_eq_true]
    refine ⟨⟨by omega, by simp⟩, fun z hz => ?_⟩
    obtain ⟨i, hi, rfl⟩ := List.getElem_of_mem hz
    have := own_boxes h i hi
    simp [inR]; omega
  simp only [passV, h, hb, Bool.and_self, if_true, Int.toNat_natCast]
  exact pass_own h

theorem buck_none {zs : List Int} {b : Nat} (hb : 0 < b) (n m : Nat) : buck zs (List.replicate m 0) b n = [] := by
  induction n with
  | zero => rfl
  | succ n ih =>
    simp only [buck, ih, List.nil_append]
    have : (List.replicate m (0 : Int)).getD n 0 = 0 := by
      simp [List.getD, List.getElem?_replicate]; split <;> rfl
    rw [this, if_neg (by omega)]
theorem pass_zero (zs : List Int) (k : Nat) : passL zs (List.replicate zs.length 0) (k + 1) = zs := by
  induction k with
  | zero => exact pass_one (by simp) (fun i hi => by simp)
  | succ k ih =>
    rw [show passL zs (List.replicate zs.length 0) (k + 1 + 1) = passL zs (List.replicate zs.length 0) (k + 1) ++ buck zs (List.replicate zs.length 0) (k + 1) zs.length from rfl, ih, buck_none (by omega), List.append_nil]
theorem passV_zero {zs : List Int} (h : rowB 9 zs = true) {k : Int} (h1 : 1 ≤ k) (h4 : k ≤ 4) : passV zs (List.replicate zs.length 0) k = zs := by
  have hb : boxB zs (List.replicate zs.length 0) k = true := by
    simp only [boxB, Bool.and_eq_true, decide_eq_true_eq, List.all_eq_true]
    refine ⟨⟨⟨h1, h4⟩, by simp⟩, fun z hz => ?_⟩
    have := List.eq_of_mem_replicate hz
    subst this
    simp [inR]; omega
  simp only [passV, h, hb, Bool.and_self, if_true]
  obtain ⟨d, hd⟩ : ∃ d, k.toNat = d + 1 := ⟨k.toNat - 1, by omega⟩
  rw [hd]
  exact pass_zero zs d

set_option maxRecDepth 100000 in
set_option maxHeartbeats 4000000 in
theorem passesUndo_law (A : Option Addr) (c : Nat) (zs : List Int) (w : World) (hr : Own w 0 w.heap.size A (zs.map (Value.int .u8))) (hx : zs.length ≤ c ∧ c ≤ maxLen ∧ ∀ z ∈ zs, (Lit.int .u8 z).wf = true) :
    Calls Try.prog 5 #[.slice A zs.length c] w fun e w' => e = .returned (.bool true) ∧ Below w.heap.size w w' := by
  obtain ⟨i0, hi0, hz0, hz1, hz2⟩ := info_parts Try.info3
  have hl : zs.length ≤ 9223372036854775807 := by have := hx.1; have := hx.2.1; unfold maxLen at this; omega
  have HX := Lib.hid hx
  clear hx
  by_cases h20 : zs.length ≤ 1048576
  · go_enter Try.func5, Try.ntmps5
    go_wp2_with fail
    refine (drawSortPasses_any _ _ _ _ hr HX.out).mono ?_
    rintro e w1 ⟨A1, c1, ds, k, rfl, h10, hdc, hk1, hk5, ho, b1⟩
    have hbd := sortV_bd ds k
    obtain ⟨V, hV⟩ : ∃ V, sortV ds k = V := ⟨_, rfl⟩
    rw [hV] at hbd
    have HV := Lib.hid hV
    have hVl := hbd.1
    have hrl : ∀ (i : Nat) (hi : i < V.length), V[i].length ≤ 1000000000 := fun i hi => by have := hbd.2 _ (List.getElem_mem hi); omega
    have HRL := Lib.hid hrl
    have HE := Lib.hid (eqG_self V)
    have z1 := b1.size
    clear hV hbd hrl
    go_wp2_with fail
    refine (impSort_any _ _ _ _ _ ho hdc).mono ?_
    rw [HV.out]
    rintro e w2 ⟨A2, c2, rfl, hc2, g2, b2⟩
    have z2 := b2.size
    have o2 := ho.past b2
    have p2 := b1.trans (b2.mono z1)
    go_wp2_with fail
    refine (specSort_any _ _ _ _ _ o2 (by omega)).mono ?_
    rw [HV.out]
    rintro e w3 ⟨A3, c3, rfl, hc3, g3, b3⟩
    have z3 := b3.size
    have g23 := g2.keep (Nat.le_refl _) b3
    have o3 := o2.past b3
    have p3 := p2.trans (b3.mono (by omega))
    go_wp2_with fail
    refine (equalRows_any _ _ _ _ _ _ _ (g23.row.more (by omega)) (g3.row.more (by omega)) (by omega) HRL.out).mono ?_
    rw [HE.out]
    rintro e w4 ⟨rfl, n4, hw4⟩
    have b4 : Below w3.heap.size w3 w4 := by rw [hw4]; exact below_drewN (Below.refl _ _) n4
    clear hw4
    have z4 := b4.size
    have o4 := o3.past b4
    have p4 := p3.trans (b4.mono (by omega))
    clear g2 g3 g23 o2 o3 b1 b2 b3 b4 p2 p3 ho hr
    by_cases hv : rowB 9 ds = true
    · have HVR := Lib.hid hv
      have hva := impValidRow_any A1 c1 ds w4 o4 hdc
      rw [hv] at hva
      have HVA := Lib.hid hva
      clear hv hva
      by_cases h4 : 1 ≤ ds.length ∧ ds.length ≤ 4
      · obtain ⟨hd1, hd4⟩ := h4
        have ht : ((ds.length : Int) == 0) = false := beq_eq_false_iff_ne.2 (by omega)
        have hown := passV_own HVR.out hd1 hd4
        have HOW := Lib.hid hown
        clear hown
        have hdz : 1 ≤ (ds.length : Int) := by omega
        have hdz4 : (ds.length : Int) ≤ 4 := by omega
        go_wp2_with fail
        refine HVA.out.mono ?_
        rintro e w' ⟨rfl, rfl⟩
        go_wp2_with (at_make; refine wpList_make_full _ rfl (.tmp 36) (.tmp 36) _ rfl w4.heap.size 3 i0 (.int .i64 0) 1 Try.underlying22 hi0 hz0 hz1 _ _ _ _ _ rfl rfl rfl rfl (by rw [hz2]; omega) (by unfold maxLen; omega) (Nat.le_refl _) ?_)
        intro w5 hown5 hg5
        have b5 : Below w4.heap.size w4 w5 := (Below.refl _ _).grown hg5 (Nat.le_refl _) (by simp)
        have zr5 : OwnInts w5 w4.heap.size w5.heap.size (some ⟨w4.heap.size, 0, none⟩) (List.replicate ds.length 0) := by
          have h1 := hown5
          rw [show (madeCells #[Value.int .i64 0] ds.length).toList = (List.replicate ds.length (0 : Int)).map (Value.int .i64) by rw [toList_madeCells_one]; simp] at h1
          exact own_row_cells h1
        have z5 := b5.size
        have o5 := o4.past b5
        have p5 := p4.trans (b5.mono (by omega))
        clear hown5 hg5 b5 o4 p4
        have hpo := impPassOf_any A1 A1 c1 c1 ds ds (ds.length : Int) w5 o5 o5 hdc (by omega)
        rw [HOW.out] at hpo
        have HPO := Lib.hid hpo
        clear hpo
        go_wp2_with fail
        refine HPO.out.mono ?_
        rintro e w6 ⟨A6, c6, rfl, hc6, o6, b6⟩
        rw [tab_length] at hc6 ⊢
        have z6 := b6.size
        have o56 := o5.past b6
        have zr6 := zr5.past b6
        have p6 := p5.trans (b6.mono (by omega))
        clear b6 o5 zr5 p5
        go_wp2_with fail
        refine (inOrder_any ds.length w6 (by omega)).mono ?_
        rintro e w7 ⟨A7, c7, rfl, hc7, o7, b7⟩
        have z7 := b7.size
        have o57 := o56.past b7
        have zr7 := zr6.past b7
        have o67 := o6.past b7
        have p7 := p6.trans (b7.mono (by omega))
        clear b7 o56 zr6 o6 p6
        go_wp2_with fail
        refine (HEm A6 A7 c6 c7 w7 o67.row o7.row (by omega)).mono ?_
        rintro e w8 ⟨rfl, n8, hw8⟩
        have b8 : Below w7.heap.size w7 w8 := by rw [hw8]; exact below_drewN (Below.refl _ _) n8
        clear hw8
        have z8 := b8.size
        have o58 := o57.past b8
        have zr8 := zr7.past b8
        have p8 := p7.trans (b8.mono (by omega))
        clear b8 o57 zr7 o67 o7 p7
        by_cases hk4 : k ≤ 4
        · have hzero := passV_zero HVR.out hk1 hk4
          have hpz := impPassOf_any A1 (some ⟨w4.heap.size, 0, none⟩) c1 ds.length ds (List.replicate ds.length 0) k w8 o58 zr8.row hdc (by simp; omega)
          rw [hzero, List.length_replicate] at hpz
          have HPZ := Lib.hid hpz
          clear hpz hzero
          go_wp2_with fail
          refine HPZ.out.mono ?_
          rintro e w9 ⟨A9, c9, rfl, hc9, o9, b9⟩
          have z9 := b9.size
          have p9 := p8.trans (b9.mono (by omega))
          have HED := Lib.hid (eqI_refl' ds)
          go_wp2_with fail
          refine (equalInts_any _ _ _ _ _ _ _ o9.row (o58.past b9) (by omega)).mono ?_
          rw [HED.out]
          rintro e w10 ⟨rfl, n10, rfl⟩
          go_wp2_with fail
          go_ret
          exact ⟨rfl, below_drewN p9 n10⟩
        · have hk4' : 4 < k := by omega
          clear hk4
          go_wp2_with fail
          go_ret
          exact ⟨rfl, p8⟩
      · by_cases h0 : ds.length = 0
        · have ht : ((ds.length : Int) == 0) = true := beq_iff_eq.2 (by omega)
          have hle : (ds.length : Int) ≤ 4 := by omega
          clear h4 h0
          go_wp2_with fail
          refine HVA.out.mono ?_
          rintro e w' ⟨rfl, rfl⟩
          go_wp2_with fail
          go_ret
          exact ⟨rfl, p4⟩
        · have hgt : (4 : Int) < ds.length := by omega
          clear h4 h0
          go_wp2_with fail
          refine HVA.out.mono ?_
          rintro e w' ⟨rfl, rfl⟩
          go_wp2_with fail
          go_ret
          exact ⟨rfl, p4⟩
    · have hv' : rowB 9 ds = false := by simpa using hv
      have hva := impValidRow_any A1 c1 ds w4 o4 hdc
      rw [hv'] at hva
      have HVA := Lib.hid hva
      clear hv hv' hva
      go_wp2_with fail
      refine HVA.out.mono ?_
      rintro e w' ⟨rfl, rfl⟩
      go_wp2_with fail
      go_ret
      exact ⟨rfl, p4⟩
  · go_enter Try.func5, Try.ntmps5
    go_wp2
    go_ret
    exact ⟨rfl, Below.refl _ _⟩
end Go.Proofs.Ytdgdlmpmoafkgaa
