/- The walk of the law FnValidTown. No condition. -/
import Derived.Test.YtmffnokagbbmiaaN19
import Derived.Test.YtmffnokagbbmiaaN4
import Derived.Test.YtmffnokagbbmiaaN8g
import Derived.Test.YtmffnokagbbmiaaDw
import Derived.Deep.RegionLaw
import Derived.Deep.RegionHeld3
namespace Go.Proofs.Ytmffnokagbbmiaa
open Go.RowKit

set_option maxRecDepth 100000 in
set_option maxHeartbeats 8000000 in
theorem validTown_law (A : Option Addr) (c : Nat) (zs : List Int) (v0 : World) (hr : Own v0 0 v0.heap.size A (zs.map (Value.int .u8))) (hx : zs.length ≤ c ∧ c ≤ maxLen ∧ ∀ z ∈ zs, (Lit.int .u8 z).wf = true) :
    Calls Try.prog 5 #[.slice A zs.length c] v0 fun e w' => e = .returned (.bool true) ∧ Below v0.heap.size v0 w' := by
  obtain ⟨i0, hi0, hz0, hz1, hz2⟩ := info_parts Try.infoR
  have hl : zs.length ≤ 9223372036854775807 := by have := hx.1; have := hx.2.1; unfold maxLen at this; omega
  have HX := Lib.hid hx
  clear hx
  by_cases h20 : zs.length ≤ 1048576
  · go_enter Try.func5, Try.ntmps5
    go_wp2_with fail
    refine (DrawValidTown_any _ _ _ _ hr HX.out).mono ?_
    rintro e w ⟨B, d, rs, n, rfl, hn1, hn6, h9, hdc, hln, hrg, hb0⟩
    have HM := Lib.hid (show ∀ r ∈ rs, r.length ≤ 1000000000 from fun r h => by have := hln r h; omega)
    have HB0 := Lib.hid hb0
    have z00 := hb0.size
    clear hln hb0
    obtain ⟨q, hq⟩ : ∃ q, townB (n : Int) rs = q := ⟨_, rfl⟩
    have HQ := Lib.hid hq
    clear hq
    go_wp2_with fail
    refine (impValidTown_any _ _ _ _ _ hrg HM.out).mono ?_
    rw [HQ.out]
    rintro e w1 ⟨rfl, b1⟩
    have hr1 := hrg.past b1
    go_wp2_with fail
    refine (specValidTown_any _ _ _ _ _ hr1 (by omega) HM.out).mono ?_
    rw [HQ.out]
    rintro e w2 ⟨rfl, b2⟩
    have hr2 := hr1.past b2
    have HB2 := Lib.hid (HB0.out.trans ((b1.trans (b2.mono b1.size)).mono z00))
    have hz2w := HB2.out.size
    clear hrg hr1 b1 b2
    cases q with
    | false =>
      go_wp2_with fail
      refine (specValidTown_any _ _ _ _ _ hr2 (by omega) HM.out).mono ?_
      rw [HQ.out]
      rintro e w3 ⟨rfl, b3⟩
      go_wp2_with fail
      go_ret
      exact ⟨rfl, HB2.out.trans (b3.mono hz2w)⟩
    | true =>
      by_cases h0 : rs.length = 0
      · have h1 : ((rs.length : Int) == 0) = true := beq_iff_eq.2 (by omega)
        clear h0
        go_wp2
        go_quiet (fail)
        go_wp2
        go_ret
        exact ⟨rfl, below_drewN HB2.out _⟩
      have h1 : ((rs.length : Int) == 0) = false := beq_eq_false_iff_ne.2 (by omega)
      by_cases h7 : rs.length = 7
      · have h2 : ((rs.length : Int) == 7) = true := beq_iff_eq.2 (by omega)
        clear h0 h7
        go_wp2
        go_quiet (fail)
        go_wp2
        go_ret
        exact ⟨rfl, below_drewN HB2.out _⟩
      have h2 : ((rs.length : Int) == 7) = false := beq_eq_false_iff_ne.2 (by omega)
      have hpos : 0 < rs.length := by omega
      have hle7 : rs.length ≤ 7 := by obtain ⟨_, _, _, _, h, _⟩ := townB_parts HQ.out; exact h
      have HT := Lib.hid (show townB (n : Int) (rs ++ rs.take 1) = true from townB_more HQ.out (fun r h => List.mem_of_mem_take h) (by rw [List.length_take]; omega))
      obtain ⟨hs, hown, hat⟩ := hr2
      obtain ⟨bh, oh, rfl, hbh, hch⟩ := hown.open (by rw [hat.1]; omega)
      obtain ⟨R0, cR0, hh0, hcR0, hR0⟩ := hat.2 0 hpos
      have x0 := hch 0 _ hh0
      rw [Nat.add_zero] at x0
      have HO := Lib.hid hown
      have HAT := Lib.hid hat
      have H1 := Lib.hid (heads_one hat)
      have hhl : hs.length = rs.length := hat.1
      have HHL := Lib.hid hhl
      have hhs0 : hs.take 1 = [.slice R0 rs[0].length cR0] := by
        rw [List.take_add_one, hh0]; rfl
      have HH0 := Lib.hid hhs0
      obtain ⟨l0, hl0⟩ : ∃ l0, rs[0].length = l0 := ⟨_, rfl⟩
      rw [hl0] at x0 hcR0 hhs0 HH0
      clear hch hat hown hR0 hh0 hhl hl0 hhs0 h0 h7
      have HKEEP := Lib.hid (fun (X : World) (hX : Below w2.heap.size w2 X) => show X.cell? ⟨bh, oh, none⟩ = some (.slice R0 l0 cR0) from cell_keep hX hbh x0)
      have HHM := Lib.hid (show hs.length = rs.length * 1 by rw [Nat.mul_one]; exact HHL.out)
      have HCALL := Lib.hid (fun (W : World) (hW : Below w2.heap.size w2 W) (A3 : Option Addr) (c3 : Nat) (h3 : W.ownsRow w2.heap.size 31 1 (.slice A3 (rs.length + 1) c3) (rs.length + 1) (hs ++ [.slice R0 l0 cR0])) => show Calls Try.prog 17 #[.int .i64 (n : Int), .slice A3 (rs.length + 1) c3] W (fun e w' => e = .returned (.bool true) ∧ Below W.heap.size W w') from by
        have hlen : (rs ++ rs.take 1).length = rs.length + 1 := by rw [List.length_append, List.length_take]; omega
        have hzW := hW.size
        have hgr : Grid W 0 W.heap.size A3 (rs ++ rs.take 1) := ⟨hs ++ hs.take 1, by rw [HH0.out]; exact (own_of_rowS (by decide) h3).row, gridAt_append ((HAT.out.below hW).more hzW) (gridAt_take ((HAT.out.below hW).more hzW) 1)⟩
        have hcall := impValidTown_any A3 c3 (rs ++ rs.take 1) (n : Int) W hgr (fun r h => by
          rcases List.mem_append.1 h with h | h
          · exact HM.out r h
          · exact HM.out r (List.mem_of_mem_take h))
        rwa [hlen, HT.out] at hcall)
      have hcap0 : cR0 ≤ cR0 := Nat.le_refl _
      have hp0 : (0 : Int) < rs.length := by omega
      clear hcap0 hcR0
      go_wp2_with fail
      go_region_held3 (fun w' => w'.cell? ⟨bh, oh, none⟩ = some (.slice R0 l0 cR0))
        (exact HKEEP.out _ (by first | exact HB5.out | exact below_g hgB (Nat.le_refl _) | exact below_g (g_alloc hgA _) (Nat.le_refl _) | exact below_g hgA (Nat.le_refl _) | exact below_g (g_alloc (g_alloc (g_drew (World.grownBy.refl w2 none)) _) _) (Nat.le_refl _) | exact below_g (g_alloc (g_drew (World.grownBy.refl w2 none)) _) (Nat.le_refl _) | exact below_g (g_drew (World.grownBy.refl w2 none)) (Nat.le_refl _) | exact Below.refl _ _))
        (first
        | (refine step_extend_w (w := w2.drew.alloc (.cells #[] 31)) (by kernel_rfl) (.tmp 41) (.tmp 42) 22 (by rfl) i0 (.slice none 0 0) 24 Try.underlying22 hi0 hz0 hz1 hz2 rfl (by decide) _ _ (by rfl) (first_litG _ w2.heap.size w2.heap.size (Nat.le_refl _) rfl) _ _ _ _ _ (by rfl) HHM.out (HO.out.row.grownN (Nat.le_refl _) (g_alloc (g_drew (World.grownBy.refl w2 none)) _)) H1.out (by omega) (by omega) (g_alloc (g_drew (World.grownBy.refl w2 none)) _).size ?_; intro A2 c2 w3 hown2 hg2; simp only [Nat.zero_add]; have hgA : w2.grownBy w3 none := g_new (g_alloc (g_drew (World.grownBy.refl w2 none)) _) hg2 (fun i hi => ((first_litG w2.drew w2.heap.size w2.heap.size (Nat.le_refl _) rfl).lt _ hi).1); have hown2' : w3.ownsRow w2.heap.size 31 1 (.slice A2 rs.length c2) rs.length hs := (by simpa using hown2))
        | (refine step_extend_w (w := (w2.drew.alloc (.cells #[] 31)).alloc (.cells #[.slice R0 l0 cR0] 31)) (by kernel_rfl) (.tmp 41) (.tmp 42) 22 (by rfl) i0 (.slice none 0 0) 24 Try.underlying22 hi0 hz0 hz1 hz2 rfl (by decide) _ _ (by rfl) ((first_litG _ w2.heap.size w2.heap.size (Nat.le_refl _) rfl).alloc _) _ _ _ _ _ (by rfl) HHM.out (HO.out.row.grownN (Nat.le_refl _) (g_alloc (g_alloc (g_drew (World.grownBy.refl w2 none)) _) _)) H1.out (by omega) (by omega) (g_alloc (g_alloc (g_drew (World.grownBy.refl w2 none)) _) _).size ?_; intro A2 c2 w3 hown2 hg2; simp only [Nat.zero_add]; have hgA : w2.grownBy w3 none := g_new (g_alloc (g_alloc (g_drew (World.grownBy.refl w2 none)) _) _) hg2 (fun i hi => (((first_litG w2.drew w2.heap.size w2.heap.size (Nat.le_refl _) rfl).alloc (.cells #[.slice R0 l0 cR0] 31)).lt _ hi).1); have hown2' : w3.ownsRow w2.heap.size 31 1 (.slice A2 rs.length c2) rs.length hs := (by simpa using hown2); have hsb : Own w3 0 (w2.heap.size + 2) (some ⟨w2.heap.size + 1, 0, none⟩) [.slice R0 l0 cR0] := src_b w2.drew _ #[.slice R0 l0 cR0] 31 hg2)
        | (refine step_extend_w (w := (w2.drew.alloc (.cells #[.slice R0 l0 cR0] 31)).alloc (.cells #[] 31)) (by kernel_rfl) (.tmp 41) (.tmp 42) 22 (by rfl) i0 (.slice none 0 0) 24 Try.underlying22 hi0 hz0 hz1 hz2 rfl (by decide) _ _ (by rfl) (first_litG _ w2.heap.size (w2.heap.size + 1) (g_alloc (g_drew (World.grownBy.refl w2 none)) _).size (World.size_alloc _ _)) _ _ _ _ _ (by rfl) HHM.out (HO.out.row.grownN (Nat.le_refl _) (g_alloc (g_alloc (g_drew (World.grownBy.refl w2 none)) _) _)) H1.out (by omega) (by omega) (g_alloc (g_alloc (g_drew (World.grownBy.refl w2 none)) _) _).size ?_; intro A2 c2 w3 hown2 hg2; simp only [Nat.zero_add]; have hgA : w2.grownBy w3 none := g_new (g_alloc (g_alloc (g_drew (World.grownBy.refl w2 none)) _) _) hg2 (fun i hi => ((first_litG (w2.drew.alloc (.cells #[.slice R0 l0 cR0] 31)) w2.heap.size (w2.heap.size + 1) (g_alloc (g_drew (World.grownBy.refl w2 none)) _).size (World.size_alloc _ _)).lt _ hi).1); have hown2' : w3.ownsRow w2.heap.size 31 1 (.slice A2 rs.length c2) rs.length hs := (by simpa using hown2); have hsb : Own w3 0 (w2.heap.size + 1) (some ⟨w2.heap.size, 0, none⟩) [.slice R0 l0 cR0] := src_c w2.drew _ #[.slice R0 l0 cR0] 31 hg2)
        | (refine step_extend_w (w := w3) (by kernel_rfl) (.tmp 43) (.tmp 47) 22 (by rfl) i0 (.slice none 0 0) 24 Try.underlying22 hi0 hz0 hz1 hz2 rfl (by decide) _ _ (by rfl) hown2' _ _ _ _ [.slice R0 l0 cR0] (by rfl) (by simp) hsb (by simp [Value.oneCell']) (by omega) (by omega) hgA.size ?_; intro A3 c3 w4 hown3 hg3; have hgB : w2.grownBy w4 none := g_new hgA hg3 (fun i hi => (hown2'.lt _ hi).1))
        | (refine step_extend_w (w := w3.alloc (.cells #[.slice R0 l0 cR0] 31)) (by kernel_rfl) (.tmp 43) (.tmp 47) 22 (by rfl) i0 (.slice none 0 0) 24 Try.underlying22 hi0 hz0 hz1 hz2 rfl (by decide) _ _ (by rfl) (hown2'.alloc _) _ _ _ _ [.slice R0 l0 cR0] (by rfl) (by simp) (own_new w3 #[.slice R0 l0 cR0] 31) (by simp [Value.oneCell']) (by omega) (by omega) (g_alloc hgA _).size ?_; intro A3 c3 w4 hown3 hg3; have hgB : w2.grownBy w4 none := g_new (g_alloc hgA _) hg3 (fun i hi => (hown2'.lt _ hi).1))
        | (go_at_call 17; refine (HCALL.out _ (below_g hgB (Nat.le_refl _)) A3 c3 hown3).mono ?_; rintro e w5 ⟨rfl, hb5⟩; have HB5 := Lib.hid ((below_g hgB (Nat.le_refl _)).trans (hb5.mono hgB.size)); clear hb5))
      all_goals
        go_simp
        go_wp2_with fail
        go_ret
        exact ⟨rfl, HB2.out.trans (HB5.out.mono hz2w)⟩
  · go_enter Try.func5, Try.ntmps5
    go_wp2
    go_ret
    exact ⟨rfl, Below.refl _ _⟩
end Go.Proofs.Ytmffnokagbbmiaa
