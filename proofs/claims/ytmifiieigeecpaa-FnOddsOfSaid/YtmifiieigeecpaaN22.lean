/- The walk of the law FnOddsOf. No condition. -/
import Derived.Test.YtmifiieigeecpaaN21
import Derived.Test.YtmifiieigeecpaaN8g
namespace Go.Proofs.Ytmifiieigeecpaa
open Go.RowKit

set_option maxRecDepth 100000 in
set_option maxHeartbeats 8000000 in
theorem oddsOf_law (A : Option Addr) (c : Nat) (zs : List Int) (v0 : World) (hr : Own v0 0 v0.heap.size A (zs.map (Value.int .u8))) (hx : zs.length ≤ c ∧ c ≤ maxLen ∧ ∀ z ∈ zs, (Lit.int .u8 z).wf = true) :
    Calls Try.prog 5 #[.slice A zs.length c] v0 fun e w' => e = .returned (.bool true) ∧ Below v0.heap.size v0 w' := by
  obtain ⟨i0, hi0, hz0, hz1, hz2⟩ := info_parts Try.infoR
  have hl : zs.length ≤ 9223372036854775807 := by have := hx.1; have := hx.2.1; unfold maxLen at this; omega
  have HX := Lib.hid hx
  clear hx
  by_cases h20 : zs.length ≤ 1048576
  · go_enter Try.func5, Try.ntmps5
    go_wp2_with fail
    refine (DrawOddsOf_any _ _ _ _ hr HX.out).mono ?_
    rintro e w ⟨B, d, rs, n, rfl, hn1, hn6, h9, hdc, hln, hrg, hb0⟩
    have HM := Lib.hid (show ∀ r ∈ rs, r.length ≤ 1000000000 from fun r h => by have := hln r h; omega)
    have HB0 := Lib.hid hb0
    have z00 := hb0.size
    clear hln hb0
    obtain ⟨q, hq⟩ : ∃ q, oddsV (n : Int) rs = q := ⟨_, rfl⟩
    have hql : q.length ≤ 5 := by rw [← hq]; exact oddsV_len _ rs
    have hq2 : q.length % 2 = 0 := by rw [← hq]; exact oddsV_even
    have hqs : q.Pairwise (· < ·) := by rw [← hq]; exact oddsV_sorted
    have HQS := Lib.hid hqs
    have HQ2 := Lib.hid hq2
    have HV := Lib.hid hq
    have HE := Lib.hid (eqISelf q)
    clear hq hqs hq2
    obtain ⟨t, ht⟩ : ∃ t, townB (n : Int) rs = t := ⟨_, rfl⟩
    have HTB := Lib.hid ht
    clear ht
    have g0 := hrg
    clear hrg
    have p0 := Below.refl w.heap.size w
    have z0 : w.heap.size ≤ w.heap.size := Nat.le_refl _
    go_wp2_with fail
    refine (impOddsOf_any _ _ _ _ _ (g0.row.more (by omega)) HM.out).mono ?_
    rw [HV.out]
    rintro e w1 ⟨A1, c1, rfl, hc1, o1, e1⟩
    have z1 := e1.size
    have g1 := g0.keep (by omega) e1
    clear g0
    have a1 := o1
    clear o1
    have p1 := p0.trans (e1.mono (by omega))
    clear p0 e1
    go_wp2_with fail
    refine (specOddsOf_any _ _ _ _ _ (g1.row.more (by omega)) (by omega) HM.out).mono ?_
    rw [HV.out]
    rintro e w2 ⟨A2, c2, rfl, hc2, o2, e2⟩
    have z2 := e2.size
    have g2 := g1.keep (by omega) e2
    clear g1
    have a2 := a1.keep (by omega) e2
    clear a1
    have s2 := o2
    clear o2
    have p2 := p1.trans (e2.mono (by omega))
    clear p1 e2
    go_wp2_with fail
    refine (equalInts_any _ _ _ _ _ _ _ (a2.row.more (by omega)) (s2.row.more (by omega)) (by omega)).mono ?_
    rw [HE.out]
    rintro e w3 ⟨rfl, n3, hw3⟩
    have e3 : Below w2.heap.size w2 w3 := by rw [hw3]; exact drewBelow _ _
    clear hw3
    have z3 := e3.size
    have g3 := g2.keep (by omega) e3
    clear g2
    have a3 := a2.keep (by omega) e3
    clear a2
    have s3 := s2.keep (by omega) e3
    clear s2
    have p3 := p2.trans (e3.mono (by omega))
    clear p2 e3
    clear s3
    go_wp2_with fail
    refine (impValidTown_any _ _ _ _ _ (g3.row.more (by omega)) HM.out).mono ?_
    rw [HTB.out]
    rintro e w4 ⟨rfl, e4⟩
    have z4 := e4.size
    have g4 := g3.keep (by omega) e4
    clear g3
    have a4 := a3.keep (by omega) e4
    clear a3
    have p4 := p3.trans (e4.mono (by omega))
    clear p3 e4
    cases t with
    | false =>
      go_wp2_with fail
      refine (specOddsOf_any _ _ _ _ _ (g4.row.more (by omega)) (by omega) HM.out).mono ?_
      rw [HV.out]
      rintro e w5 ⟨A5, c5, rfl, hc5, o5, e5⟩
      have z5 := e5.size
      have g5 := g4.keep (by omega) e5
      clear g4
      have a5 := a4.keep (by omega) e5
      clear a4
      have s5 := o5
      clear o5
      have p5 := p4.trans (e5.mono (by omega))
      clear p4 e5
      clear g5
      go_wp2_with fail
      refine (equalInts_any _ _ _ _ _ _ _ (a5.row.more (by omega)) (s5.row.more (by omega)) (by omega)).mono ?_
      rw [HE.out]
      rintro e w6 ⟨rfl, n6, hw6⟩
      have e6 : Below w5.heap.size w5 w6 := by rw [hw6]; exact drewBelow _ _
      clear hw6
      have z6 := e6.size
      have a6 := a5.keep (by omega) e6
      clear a5
      have s6 := s5.keep (by omega) e6
      clear s5
      have p6 := p5.trans (e6.mono (by omega))
      clear p5 e6
      go_wp2_with fail
      go_ret
      exact ⟨rfl, HB0.out.trans (p6.mono z00)⟩
    | true =>
      obtain ⟨hs, hown, hat⟩ := g4.row.more (show _ ≤ w4.heap.size by omega)
      have H1 := Lib.hid (heads_one hat)
      have hhl : hs.length = rs.length := hat.1
      have HHL := Lib.hid hhl
      have HAT := Lib.hid hat
      have HOW := Lib.hid hown
      obtain ⟨ws, hws⟩ : ∃ ws, ws = w4 := ⟨_, rfl⟩
      rw [← hws] at hown hat HOW HAT a4 p4 ⊢
      have hzs : w4.heap.size ≤ ws.heap.size := by rw [hws]; exact Nat.le_refl _
      clear hws
      have HP := Lib.hid p4
      have HA := Lib.hid (a4.row.more (B' := ws.heap.size) (by omega))
      have hzp := p4.size
      have hownL : (ws.alloc (.cells #[] 27)).ownsRow ws.heap.size 27 1 (.slice (some ⟨ws.heap.size, 0, none⟩) 0 0) 0 [] := first_litG ws ws.heap.size ws.heap.size (Nat.le_refl _) rfl
      have hs1 : Own (ws.alloc (.cells #[] 27)) 0 ws.heap.size B hs := hown.below ((Below.refl _ _).alloc (Nat.le_refl _) _)
      clear p4 hhl hat hown a4 g4
      go_wp2_with (at_builtin; refine wpList_extend rfl (.tmp 35) (.tmp 36) 23 rfl i0 (.slice none 0 0) 24 Try.underlying23 hi0 hz0 hz1 hz2 rfl (by decide) _ _ rfl hownL _ rs.length _ _ hs rfl (by have := HHL.out; omega) hs1 H1.out (by omega) (by omega) (by simp) ?_)
      intro A5 c5 w5 hown5 hg5
      have hgn5 : ws.grownBy w5 none := g_new (World.grownBy_alloc ws _ none) hg5 (fun i hi => (hownL.lt _ hi).1)
      have hs2 : Own w5 0 ws.heap.size B hs := HOW.out.below (below_g hgn5 (Nat.le_refl _))
      have hz5 := hgn5.size
      have hown5b : w5.ownsRow ws.heap.size 27 1 (.slice A5 rs.length c5) rs.length hs := by simpa using hown5
      have HG5 := Lib.hid hgn5
      clear hownL hs1 hg5 hgn5 hown5
      go_wp2_with (at_builtin; refine wpList_extend rfl (.tmp 37) (.tmp 38) 23 rfl i0 (.slice none 0 0) 24 Try.underlying23 hi0 hz0 hz1 hz2 rfl (by decide) _ _ rfl hown5b _ rs.length _ _ hs rfl (by have := HHL.out; omega) hs2 H1.out (by omega) (by omega) hz5 ?_)
      intro A6 c6 w6 hown6 hg6
      have hgn6 : ws.grownBy w6 none := g_new HG5.out hg6 (fun i hi => (hown5b.lt _ hi).1)
      have hlen6 : rs.length + rs.length = (rs ++ rs).length := by rw [List.length_append]
      have HB6 := Lib.hid (below_g hgn6 (Nat.le_refl _))
      have hz6 := hgn6.size
      have hgr6 : Grid w6 0 w6.heap.size A6 (rs ++ rs) := ⟨hs ++ hs, (own_of_rowS (by decide) hown6).row, gridAt_append ((HAT.out.below (below_g hgn6 (Nat.le_refl _))).more hz6) ((HAT.out.below (below_g hgn6 (Nat.le_refl _))).more hz6)⟩
      rw [hlen6]
      have HGR6 := Lib.hid hgr6
      have hl6 : (rs ++ rs).length ≤ 18 := by rw [List.length_append]; omega
      clear hs2 hown5b hown6 hg6 hgn6 hgr6 hlen6
      obtain ⟨T, hT⟩ : ∃ T, rs ++ rs = T := ⟨_, rfl⟩
      have HTT := Lib.hid (show oddsV (n : Int) T = [] by rw [← hT]; exact oddsV_twice)
      have HMT := Lib.hid (show ∀ r ∈ T, r.length ≤ 1000000000 from fun r h => by rw [← hT] at h; rcases List.mem_append.1 h with h | h <;> exact HM.out r h)
      rw [hT] at HGR6 hl6 ⊢
      clear hT
      have hmod : (((q.length : Int) % 2) == 0) = true := beq_iff_eq.2 (by have := HQ2.out; omega)
      have hmod2 : (((q.length : Int).tmod 2) == 0) = true := beq_iff_eq.2 (by have := HQ2.out; rw [Int.tmod_eq_emod_of_nonneg (by omega)]; omega)
      have HAS := Lib.hid (fun (X : World) (hX : Below ws.heap.size ws X) => ascends_any _ c1 q X ((HA.out.below hX).more hX.size) (by omega) HQS.out)
      by_cases h7 : 7 < T.length
      · have hd : decide ((7 : Int) < (T.length : Int)) = true := decide_eq_true (by omega)
        go_wp2_with fail
        refine (HAS.out _ HB6.out).mono ?_
        rintro e w7 ⟨rfl, n7, h7⟩
        have HB7 := Lib.hid (show Below ws.heap.size ws w7 by rw [h7]; exact below_drewN HB6.out _)
        clear h7
        go_wp2_with fail
        go_ret
        exact ⟨rfl, HB0.out.trans ((HP.out.trans (HB7.out.mono hzp)).mono z00)⟩
      · have hd : decide ((7 : Int) < (T.length : Int)) = false := decide_eq_false (by omega)
        go_wp2_with fail
        refine (HAS.out _ HB6.out).mono ?_
        rintro e w7 ⟨rfl, n7, h7⟩
        have HB67 := Lib.hid (show Below w6.heap.size w6 w7 by rw [h7]; exact drewBelow _ _)
        have hz7 := HB67.out.size
        clear h7
        go_wp2_with fail
        refine (impOddsOf_any _ _ _ _ _ (HGR6.out.past HB67.out) HMT.out).mono ?_
        rw [HTT.out]
        rintro e w8 ⟨A8, c8, rfl, hc8, o8, e8⟩
        have HB8 := Lib.hid (HB6.out.trans ((HB67.out.trans (e8.mono hz7)).mono hz6))
        clear hc8 o8 e8
        go_wp2_with fail
        go_ret
        exact ⟨rfl, HB0.out.trans ((HP.out.trans (HB8.out.mono hzp)).mono z00)⟩
  · go_enter Try.func5, Try.ntmps5
    go_wp2
    go_ret
    exact ⟨rfl, Below.refl _ _⟩
end Go.Proofs.Ytmifiieigeecpaa
