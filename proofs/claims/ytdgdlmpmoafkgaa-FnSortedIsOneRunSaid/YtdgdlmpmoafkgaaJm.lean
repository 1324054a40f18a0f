/- The walk of the law FnSortedIsOneRun. No condition. -/
import Derived.Test.YtdgdlmpmoafkgaaJ2
import Derived.Test.YtdgdlmpmoafkgaaJ4
import Derived.Test.YtdgdlmpmoafkgaaS10
import Derived.Test.YtdgdlmpmoafkgaaEq
namespace Go.Proofs.Ytdgdlmpmoafkgaa
open Go.RowKit

theorem oneV_tab {n : Nat} (h : n ≤ 9) : oneV (tab n fun j => (j : Int)) = tab n fun j => (j : Int) := by rw [oneV_yes (rowB_tab n h), osR_tab]
theorem oneV_tab_rev {n : Nat} (h : n ≤ 9) : oneV (tab n fun j => (j : Int)).reverse = tab n fun j => (j : Int) := by rw [oneV_yes (rowB_rev (rowB_tab n h)), osR_tab_rev]
theorem risV_tab {n : Nat} (h : n ≤ 9) : risV (tab n fun j => (j : Int)) = (n : Int) := by rw [risV_yes (rowB_tab n h), lis_tab]
theorem risV_tab_rev {n : Nat} (h : n ≤ 9) (h0 : 0 < n) : risV (tab n fun j => (j : Int)).reverse = 1 := by rw [risV_yes (rowB_rev (rowB_tab n h)), lis_tab_rev n h0]; rfl

set_option maxRecDepth 100000 in
set_option maxHeartbeats 4000000 in
theorem sortedIsOneRun_law (A : Option Addr) (c : Nat) (zs : List Int) (w : World) (hr : Own w 0 w.heap.size A (zs.map (Value.int .u8))) (hx : zs.length ≤ c ∧ c ≤ maxLen ∧ ∀ z ∈ zs, (Lit.int .u8 z).wf = true) :
    Calls Try.prog 9 #[.slice A zs.length c] w fun e w' => e = .returned (.bool true) ∧ Below w.heap.size w w' := by
  have hl : zs.length ≤ 9223372036854775807 := by have := hx.1; have := hx.2.1; unfold maxLen at this; omega
  have HX := Lib.hid hx
  clear hx
  by_cases h20 : zs.length ≤ 1048576
  · go_enter Try.func9, Try.ntmps9
    go_wp2_with fail
    refine (drawRunsOf_any _ _ _ _ hr HX.out).mono ?_
    rintro e w1 ⟨B, d, ds, rfl, h10, hdc, ho, hb1⟩
    obtain ⟨q, hq⟩ : ∃ q, runsN ds = q := ⟨_, rfl⟩
    have HQ := Lib.hid hq
    have hqq : (q != q) = false := by simp
    clear hq
    go_wp2_with fail
    refine (impRunsOf_any _ _ _ _ ho hdc).mono ?_
    rintro e w2 ⟨rfl, hb2⟩
    rw [HQ.out]
    have ho2 := ho.past hb2
    have hb12 := hb1.trans (hb2.mono hb1.size)
    clear ho hb1 hb2
    go_wp2_with fail
    refine (specRunsOf_any _ _ _ _ ho2 (by omega)).mono ?_
    rintro e w3 ⟨rfl, hb3⟩
    rw [HQ.out]
    have ho3 := ho2.past hb3
    have hb13 := hb12.trans (hb3.mono hb12.size)
    clear ho2 hb12 hb3
    have hva := impValidRow_any B d ds w3 ho3 hdc
    by_cases hv : rowB 9 ds = true
    · rw [hv] at hva
      have HVA := Lib.hid hva
      have hl9 := rowB_len hv
      clear hva hv
      by_cases h0 : ds.length = 0
      · have hz : ((ds.length : Int) == 0) = true := beq_iff_eq.2 (by omega)
        clear h0
        go_wp2_with (go_at_call 18; refine HVA.out.mono ?_; rintro e w' ⟨rfl, rfl⟩)
        go_ret
        exact ⟨rfl, hb13⟩
      · have hz : ((ds.length : Int) == 0) = false := beq_eq_false_iff_ne.2 (by omega)
        obtain ⟨n, hn⟩ : ∃ n, ds.length = n := ⟨_, rfl⟩
        have hpos : 0 < n := by omega
        have hn9 : n ≤ 9 := by omega
        rw [hn] at hz HVA ⊢
        have HT := Lib.hid (And.intro (runsN_tab hn9 hpos) (And.intro (risV_tab hn9) (And.intro (oneV_tab hn9) (And.intro (oneV_tab_rev hn9) (risV_tab_rev hn9 hpos)))))
        have hnn : ((n : Int) == (n : Int)) = true := by simp
        have hd9 : n ≤ 1000 := by omega
        have HTL := Lib.hid (tab_length n fun j => (j : Int))
        clear h0 ho3 hn
        go_wp2_with (first | (go_at_call 18; refine HVA.out.mono ?_; rintro e w' ⟨rfl, rfl⟩) | fail)
        clear hz
        refine (inOrder_any n _ hd9).mono ?_
        rintro e w4 ⟨A4, c4, rfl, hc4, o4, hb4⟩
        have hb14 := hb13.trans (hb4.mono hb13.size)
        have or4 := o4.row
        obtain ⟨T, hT⟩ : ∃ T, (tab n fun j => (j : Int)) = T := ⟨_, rfl⟩
        rw [hT] at HT HTL or4
        clear hb13 hb4 o4 hT
        -- the runs
        have h5 := impRunsOf_any A4 c4 T w4 or4 (by rw [HTL.out]; exact hc4)
        rw [HTL.out, HT.out.1] at h5
        have H5 := Lib.hid h5
        clear h5
        go_wp2_with fail
        refine H5.out.mono ?_
        rintro e w5 ⟨rfl, hb5⟩
        have or5 := or4.past hb5
        have hb15 := hb14.trans (hb5.mono hb14.size)
        clear or4 hb14 hb5
        have h6 := impRisingOf_any A4 c4 T w5 or5 (by rw [HTL.out]; exact hc4)
        rw [HTL.out, HT.out.2.1] at h6
        have H6 := Lib.hid h6
        clear h6
        go_wp2_with fail
        refine H6.out.mono ?_
        rintro e w6 ⟨rfl, hb6⟩
        have or6 := or5.past hb6
        have hb16 := hb15.trans (hb6.mono hb15.size)
        clear or5 hb15 hb6
        have h7 := impOneStack_any A4 c4 T w6 or6 (by rw [HTL.out]; exact hc4)
        rw [HTL.out, HT.out.2.2.1] at h7
        have H7 := Lib.hid h7
        clear h7
        go_wp2_with fail
        refine H7.out.mono ?_
        rintro e w7 ⟨A7, c7, rfl, hc7, o7, hb7⟩
        have or7 := or6.past hb7
        have hb17 := hb16.trans (hb7.mono hb16.size)
        have h8 := equalInts_any A7 A4 c7 c4 T T w7 o7.row or7 (by rw [HTL.out]; omega)
        rw [eqI_refl', HTL.out] at h8
        rw [HTL.out]
        have H8 := Lib.hid h8
        clear h8 o7 or6 hb16 hb7 hc7
        go_wp2_with fail
        refine H8.out.mono ?_
        rintro e w8 ⟨rfl, n8, hw8⟩
        have hb8 : Below w7.heap.size w7 w8 := by rw [hw8]; exact below_drewN (Below.refl _ _) n8
        have or8 := or7.past hb8
        have hb18 := hb17.trans (hb8.mono hb17.size)
        clear or7 hb17 hb8 hw8
        -- backwards
        have h9 := backwards_any A4 c4 T w8 or8 (by rw [HTL.out]; exact hd9)
        rw [HTL.out] at h9
        have H9 := Lib.hid h9
        clear h9
        go_wp2_with fail
        refine H9.out.mono ?_
        rintro e w9 ⟨A9, c9, rfl, hc9, o9, hb9⟩
        have or9 := or8.past hb9
        have hb19 := hb18.trans (hb9.mono hb18.size)
        have hTR : T.reverse.length = n := by rw [List.length_reverse, HTL.out]
        have h10' := impOneStack_any A9 c9 T.reverse w9 o9.row (by rw [hTR]; exact hc9)
        rw [hTR, HT.out.2.2.2.1] at h10'
        have H10 := Lib.hid h10'
        clear h10' o9 or8 hb18 hb9 hc9 hTR
        go_wp2_with fail
        refine H10.out.mono ?_
        rintro e w10 ⟨A10, c10, rfl, hc10, o10, hb10⟩
        have or10 := or9.past hb10
        have hb110 := hb19.trans (hb10.mono hb19.size)
        have h11 := equalInts_any A10 A4 c10 c4 T T w10 o10.row or10 (by rw [HTL.out]; omega)
        rw [eqI_refl', HTL.out] at h11
        rw [HTL.out]
        have H11 := Lib.hid h11
        clear h11 o10 or9 hb19 hb10 hc10
        go_wp2_with fail
        refine H11.out.mono ?_
        rintro e w11 ⟨rfl, n11, hw11⟩
        have hb11 : Below w10.heap.size w10 w11 := by rw [hw11]; exact below_drewN (Below.refl _ _) n11
        have or11 := or10.past hb11
        have hb111 := hb110.trans (hb11.mono hb110.size)
        clear or10 hb110 hb11 hw11
        have h12 := backwards_any A4 c4 T w11 or11 (by rw [HTL.out]; exact hd9)
        rw [HTL.out] at h12
        have H12 := Lib.hid h12
        clear h12
        go_wp2_with fail
        refine H12.out.mono ?_
        rintro e w12 ⟨A12, c12, rfl, hc12, o12, hb12⟩
        have hb112 := hb111.trans (hb12.mono hb111.size)
        have hTR : T.reverse.length = n := by rw [List.length_reverse, HTL.out]
        have h13 := impRisingOf_any A12 c12 T.reverse w12 o12.row (by rw [hTR]; exact hc12)
        rw [hTR, HT.out.2.2.2.2] at h13
        have H13 := Lib.hid h13
        clear h13 o12 or11 hb111 hb12 hc12 hTR
        go_wp2_with fail
        refine H13.out.mono ?_
        rintro e w13 ⟨rfl, hb13⟩
        have hb113 := hb112.trans (hb13.mono hb112.size)
        clear hb112 hb13
        go_wp2_with fail
        go_ret
        exact ⟨rfl, hb113⟩
    · have hv' : rowB 9 ds = false := by simpa using hv
      rw [hv'] at hva
      have HVA := Lib.hid hva
      clear hva hv hv'
      go_wp2_with (go_at_call 18; refine HVA.out.mono ?_; rintro e w' ⟨rfl, rfl⟩)
      go_ret
      exact ⟨rfl, hb13⟩
  · go_enter Try.func9, Try.ntmps9
    go_wp2
    go_ret
    exact ⟨rfl, Below.refl _ _⟩
end Go.Proofs.Ytdgdlmpmoafkgaa
