/- The walk of the law FnStackAgain. No condition. -/
import Derived.Test.YtdgdlmpmoafkgaaJ6
import Derived.Test.YtdgdlmpmoafkgaaJ2
namespace Go.Proofs.Ytdgdlmpmoafkgaa
open Go.RowKit

theorem oneV_osN {zs : List Int} (h : rowB 9 zs = true) (k : Nat) : oneV (osN zs k) = osN zs (k + 1) := by rw [oneV_yes (osN_row h k)]; rfl

set_option maxRecDepth 100000 in
set_option maxHeartbeats 1000000 in
theorem stackAgain_law (A : Option Addr) (c : Nat) (zs : List Int) (w : World) (hr : Own w 0 w.heap.size A (zs.map (Value.int .u8))) (hx : zs.length ≤ c ∧ c ≤ maxLen ∧ ∀ z ∈ zs, (Lit.int .u8 z).wf = true) :
    Calls Try.prog 8 #[.slice A zs.length c] w fun e w' => e = .returned (.bool true) ∧ Below w.heap.size w w' := by
  have hl : zs.length ≤ 9223372036854775807 := by have := hx.1; have := hx.2.1; unfold maxLen at this; omega
  have HX := Lib.hid hx
  clear hx
  by_cases h20 : zs.length ≤ 1048576
  · go_enter Try.func8, Try.ntmps8
    go_wp2_with fail
    refine (drawOneStack_any _ _ _ _ hr HX.out).mono ?_
    rintro e w1 ⟨B, d, ds, rfl, h10, hdc, ho, hb1⟩
    have hql := oneV_len ds
    obtain ⟨q, hq⟩ : ∃ q, oneV ds = q := ⟨_, rfl⟩
    rw [hq] at hql
    have HQ := Lib.hid hq
    clear hq
    go_wp2_with fail
    refine (impOneStack_any _ _ _ _ ho hdc).mono ?_
    rw [HQ.out]
    rintro e w2 ⟨A2, c2, rfl, hc2, o2, hb2⟩
    have ho2 := ho.past hb2
    have hb12 := hb1.trans (hb2.mono hb1.size)
    have oq2 := o2.row
    clear ho hb1 hb2 o2
    go_wp2_with fail
    refine (specOneStackOf_any _ _ _ _ ho2 (by omega)).mono ?_
    rw [HQ.out]
    rintro e w3 ⟨A3, c3, rfl, hc3, o3, hb3⟩
    have ho3 := ho2.past hb3
    have oq3 := oq2.past hb3
    have hb13 := hb12.trans (hb3.mono hb12.size)
    have os3 := o3.row
    clear ho2 oq2 hb12 hb3 o3
    go_wp2_with fail
    refine (equalInts_any _ _ _ _ _ _ _ oq3 os3 (by omega)).mono ?_
    rw [eqI_refl']
    rintro e w4 ⟨rfl, n4, hw4⟩
    have hb4 : Below w3.heap.size w3 w4 := by rw [hw4]; exact below_drewN (Below.refl _ _) n4
    have ho4 := ho3.past hb4
    have hb14 := hb13.trans (hb4.mono hb13.size)
    clear ho3 oq3 hb13 hb4 os3 hw4
    go_wp2_with fail
    refine (impOneStack_any _ _ _ _ ho4 hdc).mono ?_
    rw [HQ.out]
    rintro e w5 ⟨A5, c5, rfl, hc5, o5, hb5⟩
    have ho5 := ho4.past hb5
    have oq5 := o5.row
    have hb15 := hb14.trans (hb5.mono hb14.size)
    clear ho4 hb14 hb5 o5
    by_cases h0 : q.length = 0
    · have hz : ((q.length : Int) == 0) = true := beq_iff_eq.2 (by omega)
      clear h0
      go_wp2_with fail
      go_ret
      exact ⟨rfl, hb15⟩
    · have hz : ((q.length : Int) == 0) = false := beq_eq_false_iff_ne.2 (by omega)
      have hv : rowB 9 ds = true := by
        refine Decidable.by_contra fun hc => ?_
        have := oneV_no (show rowB 9 ds = false by simpa using hc)
        rw [HQ.out] at this; rw [this] at h0; exact h0 rfl
      have hqs : q = osN ds 1 := by rw [← HQ.out, oneV_yes hv]; rfl
      have hqlen : q.length = ds.length := by rw [hqs, osN_len]
      have hl9 := rowB_len hv
      have hpos : 0 < ds.length := by omega
      have HV := Lib.hid hv
      have HST := Lib.hid (And.intro hqs hqlen)
      have HQ5 := Lib.hid (And.intro oq5 (And.intro hc5 hb15))
      obtain ⟨n, hn⟩ : ∃ n, q.length = n := ⟨_, rfl⟩
      have hnd : n ≤ ds.length := by omega
      have hnd2 : ds.length ≤ n := by omega
      rw [hn] at hz ⊢
      have HN := Lib.hid hn
      clear h0 hv hqs hqlen oq5 hc5 hb15 hn
      go_wp2_with fail
      clear hz
      go_loopw [4, 5] (fun v i wr => ∃ (k c : Nat) (H : Option Addr), 1 ≤ k ∧ (k + 1 ≤ ds.length ∨ k = 1) ∧ i = .int .i64 ((k + 1 : Nat) : Int) ∧ v = .slice H n c ∧ n ≤ c ∧ Own wr 0 wr.heap.size H ((osN ds k).map (Value.int .i64)) ∧ Below w5.heap.size w5 wr ∧ Below w.heap.size w wr) (fun _ i _ => ds.length - (intOf i).toNat)
      case atStart => exact ⟨1, c5, A5, by omega, .inr rfl, by go_num, rfl, by have := HQ5.out.2.1; have := HN.out; omega, by rw [← HST.out.1]; exact HQ5.out.1, Below.refl _ _, HQ5.out.2.2⟩
      case round =>
        obtain ⟨k, cH, H, hk1, hk, rfl, rfl, hnc, hown, hb5r, hbr⟩ := hrel
        have hosl := osN_len ds k
        by_cases hlt : k + 1 < ds.length
        · have hi := impOneStack_any H cH (osN ds k) wr hown (by rw [hosl]; omega)
          rw [hosl, oneV_osN HV.out k, show ds.length = n by omega] at hi
          have HI := Lib.hid hi
          have HB := Lib.hid (And.intro hb5r hbr)
          have hsz5 := hb5r.size
          have hszw := hbr.size
          have hk2 : k + 2 ≤ ds.length := by omega
          clear hi hown hb5r hbr hosl hk
          go_wp2_with fail
          refine HI.out.mono ?_
          rintro e w7 ⟨H', c', hv7, hc7, o7, hb7⟩
          have hl7 : (osN ds (k + 1)).length = n := by rw [osN_len]; omega
          rw [hl7] at hv7 hc7
          subst hv7
          have HW := Lib.hid (And.intro (o7.row) (And.intro hc7 (And.intro (HB.out.1.trans (hb7.mono hsz5)) (HB.out.2.trans (hb7.mono hszw)))))
          clear o7 hc7 hb7 hl7
          go_wp2_with fail
          go_roundw
          case rel => exact ⟨k + 1, c', H', by omega, .inl (by omega), by go_num, rfl, HW.out.2.1, HW.out.1, HW.out.2.2.1, HW.out.2.2.2⟩
          case measure => simp [intOf]; omega
        · have hall : osN ds k = tab ds.length (fun j => (j : Int)) := osN_all HV.out (by omega) (by omega)
          have hd9 : ds.length ≤ 1000 := by omega
          rw [hall] at hown
          have HOW := Lib.hid hown
          have HB := Lib.hid hbr
          have hds5 := ho5.below hb5r
          clear hall hown hb5r hbr hosl
          go_wp2_with fail
          refine (inOrder_any ds.length _ hd9).mono ?_
          rintro e w6 ⟨A6, c6, rfl, hc6, ho6, hb6⟩
          have h1 := HOW.out.past hb6
          have hi6 := equalInts_any H A6 cH c6 (tab ds.length fun j => (j : Int)) (tab ds.length fun j => (j : Int)) w6 h1 ho6.row (by rw [tab_length]; omega)
          rw [tab_length, eqI_refl'] at hi6
          rw [show ds.length = n by omega] at hi6 ⊢
          have HI6 := Lib.hid hi6
          have HB6 := Lib.hid (HB.out.trans (hb6.mono HB.out.size))
          clear hi6 ho6 h1 hb6
          go_wp2_with fail
          refine HI6.out.mono ?_
          rintro e w7 ⟨rfl, n7, rfl⟩
          go_wp2_with fail
          go_ret
          exact ⟨rfl, below_drewN HB6.out n7⟩
  · go_enter Try.func8, Try.ntmps8
    go_wp2
    go_ret
    exact ⟨rfl, Below.refl _ _⟩
end Go.Proofs.Ytdgdlmpmoafkgaa
