/- Fewest rides: impl. No condition. -/
import Derived.Test.YtimbkclhkepgfaaKt
import Derived.Lib.SliceRun
import Derived.Deep.RegionHeld3
import Derived.Deep.RegionHeld
namespace Go.Proofs.Ytimbkclhkepgfaa
open Go.RowKit

set_option maxRecDepth 100000 in
set_option maxHeartbeats 4000000 in
theorem impRides_any (A : Option Addr) (c : Nat) (rs : List (List Int)) (s τ to : Int) (w : World) (hr : Grid w 0 w.heap.size A rs) (hs : ∀ r ∈ rs, r.length ≤ 1000000000) :
    Calls Try.prog 6 #[.slice A rs.length c, .int .i64 s, .int .i64 τ, .int .i64 to] w fun e w' => e = .returned (.int .i64 (ridesV rs s τ to)) ∧ Below w.heap.size w w' := by
  have qT : ∀ (w : World) (a : Option Addr) (n c n' c' : Nat), (binOp .eql 27 (.slice a n c) (.slice none n' c')).run Try.prog w = .ok (.bool a.isNone) w := fun w a n c n' c' => Lib.run_eql_slice_nil w _ _ a n c n' c' Try.underlying27
  have HGR := Lib.hid hr
  have HS := Lib.hid hs
  by_cases ht : tripB rs s τ = true
  · have HI := Lib.hid (impE_any A c rs s τ w hr hs)
    have hqt := (earl_parts ht).1
    have HT := Lib.hid ht
    obtain ⟨hsb0, hsb1, htb0, htb1, hvv⟩ := trip_bd ht
    have hl10 := coaches_len hvv
    obtain ⟨q, hq⟩ : ∃ q, earlV rs s τ = q := ⟨_, rfl⟩
    rw [hq] at hqt
    have hq5 : 5 ≤ q.length := by rw [hqt.len]; exact Nat.le_refl _
    have HQ := Lib.hid hq
    have HQT := Lib.hid hqt
    by_cases hto : inR to 0 4 = true
    · have hto' := inR_iff.1 hto
      obtain ⟨v, rfl⟩ := Int.eq_ofNat_of_zero_le hto'.1
      have hv4 : v ≤ 4 := by omega
      obtain ⟨R, hR⟩ : ∃ R, ridesV rs s τ (v : Int) = R := ⟨_, rfl⟩
      have HR := Lib.hid hR
      rw [hR]
      have HST := Lib.hid (show ∀ X, Calls Try.prog 16 #[.int .i64 v] X fun e w' => e = .returned (.bool true) ∧ X = w' from fun X => by have := isStop_any (v : Int) X; rw [hto] at this; exact this)
      clear ht hr hs hqt hq hto hto' hvv hR
      go_enter Try.func6, Try.ntmps6
      go_wp2_with fail
      refine HI.out.mono ?_
      rw [HQ.out]
      rintro e w1 ⟨A1, c1, rfl, hc1, o1, b1⟩
      obtain ⟨b1', r1, rfl, hb1, hcc⟩ := o1.open (by rw [List.length_map]; omega)
      have x1 := hcc v _ (by rw [List.getElem?_map, getDC_at (by omega)]; rfl)
      have g1 := times_get HQT.out (q := v)
      obtain ⟨u, hu⟩ : ∃ u, q.getD v 0 = u := ⟨_, rfl⟩
      rw [hu] at x1 g1
      have HU := Lib.hid hu
      have HB1 := Lib.hid b1
      have hz1 := b1.size
      have k0 : (v : Int) < q.length := by omega
      have k00 : (0 : Int) ≤ v := by omega
      clear hcc hu o1 b1 hc1
      by_cases hneg : u < 0
      · have hm1 : (u == -1) = true := beq_iff_eq.2 (by omega)
        have HF := Lib.hid (show R = -1 from by rw [← HR.out]; exact ridesV_no (by rw [HQ.out, Int.toNat_natCast, HU.out, decide_eq_false (by omega)]; simp))
        go_wp2_with (go_at_call 16; ((with_reducible refine (HST.out _).mono ?_); rintro e w' ⟨rfl, rfl⟩))
        go_ret
        exact ⟨ret_int HF.out.symm, HB1.out⟩
      · have hm1 : (u == -1) = false := beq_eq_false_iff_ne.2 (by omega)
        have hpos : 0 ≤ u := by omega
        clear hneg
        go_wp2_with (go_at_call 16; ((with_reducible refine (HST.out _).mono ?_); rintro e w' ⟨rfl, rfl⟩))
        have HX1 := Lib.hid x1
        clear x1 hm1
        obtain ⟨wS, hwS⟩ : ∃ wS, wS = w1 := ⟨_, rfl⟩
        rw [← hwS] at hb1 HB1 hz1 HX1 ⊢
        clear hwS
        go_loopw [10] (fun i wr => ∃ n : Nat, n ≤ rs.length ∧ i = .int .i64 n ∧ (∀ m, m < n → enough rs s τ v m = false) ∧ Below wS.heap.size wS wr) (fun i _ => (11 - intOf i).toNat)
        case atStart => exact ⟨0, by omega, rfl, fun m hm => by omega, Below.refl _ _⟩
        case round =>
          obtain ⟨n, hnl, rfl, hfew, hbr⟩ := hrel
          have HFEW := Lib.hid hfew
          have HBR := Lib.hid hbr
          have hzr := hbr.size
          have x1 := (hbr.cell (p := ⟨b1', r1 + v, none⟩) hb1).trans HX1.out
          clear hfew hbr
          by_cases hlt : n < rs.length
          · have hyp : (tripB rs s τ && inR (n : Int) 0 10) = true := by rw [HT.out, show inR (n : Int) 0 10 = true from inR_iff.2 ⟨by omega, by omega⟩]; rfl
            have hyt := (with_parts hyp).1
            have hyv := withV_yes hyp
            obtain ⟨y, hy⟩ : ∃ y, withV rs s τ (n : Int) = y := ⟨_, rfl⟩
            rw [hy] at hyt hyv
            rw [Int.toNat_natCast] at hyv
            have hy5 : 5 ≤ y.length := by rw [hyt.len]; exact Nat.le_refl _
            have g3 := times_get hyt (q := v)
            have hen : enough rs s τ v n = decide (y.getD v 0 = u) := by unfold enough; rw [HQ.out, ← hyv, HU.out]
            obtain ⟨z, hz⟩ : ∃ z, y.getD v 0 = z := ⟨_, rfl⟩
            rw [hz] at g3 hen
            have HEN := Lib.hid hen
            have HC := Lib.hid (fun (W : World) (hW : Below wr.heap.size wr W) => show Calls Try.prog 9 #[.slice A rs.length c, .int .i64 s, .int .i64 τ, .int .i64 n] W fun e w' => ∃ b2 r2 c2, e = .returned (.slice (some ⟨b2, r2, none⟩) y.length c2) ∧ b2 < w'.heap.size ∧ w'.cell? ⟨b2, r2 + v, none⟩ = some (.int .i64 z) ∧ Below W.heap.size W w' from by
              refine (impF_any A c rs s τ n W ((HGR.out.below (HB1.out.trans ((HBR.out.trans (hW.mono hzr)).mono hz1))).more (by have := hW.size; omega)) HS.out).mono ?_
              rw [hy]
              rintro e w3 ⟨A3, c3, rfl, hc3, o3, b3⟩
              obtain ⟨b3', r3, rfl, hb3, hcc⟩ := o3.open (by rw [List.length_map]; omega)
              exact ⟨b3', r3, c3, rfl, hb3, by rw [← hz]; exact hcc v _ (by rw [List.getElem?_map, getDC_at (by omega)]; rfl), b3⟩)
            have k3 : (v : Int) < y.length := by omega
            have hd : decide (n < rs.length) = true := decide_eq_true hlt
            have hb1r : b1' < wr.heap.size := by omega
            have HX := Lib.hid x1
            clear hy hz hyt hyv hyp hen
            clear qT
            go_wp2_with fail
            refine wp_region_held_drew (S := fun W => W.cell? ⟨b1', r1 + v, none⟩ = some (.int .i64 u)) (by kernel_rfl) x1 (fun hHeld => ?_)
            refine wpAnyH_take (i := 0) (v := ?_) rfl (by kernel_rfl) (by kernel_rfl) (by kernel_rfl) (fun _ _ _ h => h) (Or.inl ⟨by kernel_rfl, ?_⟩) (by assumption) ?_
            rotate_left
            · (intro w hSw; (try dsimp only at hSw); go_simp; try (with_reducible rfl))
            (try simp only [Act.put]); (try simp only [List.setIfInBounds_toArray]); (try simp only [List.set_cons_succ]); (try simp only [List.set_cons_zero])
            refine wpAnyH_take (i := 1) (v := ?_) rfl (by kernel_rfl) (by kernel_rfl) (by kernel_rfl) (fun _ _ _ h => h) (Or.inl ⟨by kernel_rfl, ?_⟩) (by assumption) ?_
            rotate_left
            · (intro w hSw; (try dsimp only at hSw); go_simp; try (with_reducible rfl))
            (try simp only [Act.put]); (try simp only [List.setIfInBounds_toArray]); (try simp only [List.set_cons_succ]); (try simp only [List.set_cons_zero])
            refine wpAnyH_take (i := 2) (v := ?_) rfl (by kernel_rfl) (by kernel_rfl) (by kernel_rfl) (fun _ _ _ h => h) (Or.inl ⟨by kernel_rfl, ?_⟩) (by assumption) ?_
            rotate_left
            · (intro w hSw; (try dsimp only at hSw); go_simp; try (with_reducible rfl))
            (try simp only [Act.put]); (try simp only [List.setIfInBounds_toArray]); (try simp only [List.set_cons_succ]); (try simp only [List.set_cons_zero])
            refine wpAnyH_take (i := 3) (v := ?_) rfl (by kernel_rfl) (by kernel_rfl) (by kernel_rfl) (fun _ _ _ h => h) (Or.inl ⟨by kernel_rfl, ?_⟩) (by assumption) ?_
            rotate_left
            · (intro w hSw; (try dsimp only at hSw); go_simp; try (with_reducible rfl))
            (try simp only [Act.put]); (try simp only [List.setIfInBounds_toArray]); (try simp only [List.set_cons_succ]); (try simp only [List.set_cons_zero])
            refine wpAnyH_take (i := 4) (v := ?_) rfl (by kernel_rfl) (by kernel_rfl) (by kernel_rfl) (fun _ _ _ h => h) (Or.inl ⟨by kernel_rfl, ?_⟩) (by assumption) ?_
            rotate_left
            · (intro w hSw; (try dsimp only at hSw); go_simp; try (with_reducible rfl))
            (try simp only [Act.put]); (try simp only [List.setIfInBounds_toArray]); (try simp only [List.set_cons_succ]); (try simp only [List.set_cons_zero])
            refine wpAnyH_take (i := 5) (v := ?_) rfl (by kernel_rfl) (by kernel_rfl) (by kernel_rfl) (fun _ _ _ h => h) (Or.inl ⟨by kernel_rfl, ?_⟩) (by assumption) ?_
            rotate_left
            · (intro w hSw; (try dsimp only at hSw); go_simp; try (with_reducible rfl))
            (try simp only [Act.put]); (try simp only [List.setIfInBounds_toArray]); (try simp only [List.set_cons_succ]); (try simp only [List.set_cons_zero])
            refine wpAnyH_take (i := 6) (v := ?_) rfl (by kernel_rfl) (by kernel_rfl) (by kernel_rfl) (fun _ _ _ h => h) (Or.inl ⟨by kernel_rfl, ?_⟩) (by assumption) ?_
            rotate_left
            · (intro w hSw; (try dsimp only at hSw); go_simp; try (with_reducible rfl))
            (try simp only [Act.put]); (try simp only [List.setIfInBounds_toArray]); (try simp only [List.set_cons_succ]); (try simp only [List.set_cons_zero])
            refine wpAnyH_take (i := 7) (v := ?_) rfl (by kernel_rfl) (by kernel_rfl) (by kernel_rfl) (fun _ _ _ h => h) (Or.inl ⟨by kernel_rfl, ?_⟩) (by assumption) ?_
            rotate_left
            · (intro w hSw; (try dsimp only at hSw); go_simp; try (with_reducible rfl))
            (try simp only [Act.put]); (try simp only [List.setIfInBounds_toArray]); (try simp only [List.set_cons_succ]); (try simp only [List.set_cons_zero])
            refine wpAnyH_take (i := 8) (v := ?_) rfl (by kernel_rfl) (by kernel_rfl) (by kernel_rfl) (fun _ _ _ h => h) (Or.inl ⟨by kernel_rfl, ?_⟩) (by assumption) ?_
            rotate_left
            · (intro w hSw; (try dsimp only at hSw); go_simp; try (with_reducible rfl))
            (try simp only [Act.put]); (try simp only [List.setIfInBounds_toArray]); (try simp only [List.set_cons_succ]); (try simp only [List.set_cons_zero])
            refine wpAnyH_take (i := 10) (v := ?_) rfl (by kernel_rfl) (by kernel_rfl) (by kernel_rfl) (fun _ _ _ h => h) (Or.inl ⟨by kernel_rfl, ?_⟩) (by assumption) ?_
            rotate_left
            · (intro w hSw; (try dsimp only at hSw); go_simp; try (with_reducible rfl))
            (try simp only [Act.put]); (try simp only [List.setIfInBounds_toArray]); (try simp only [List.set_cons_succ]); (try simp only [List.set_cons_zero])
            refine wpAnyH_take (i := 13) (v := ?_) rfl (by kernel_rfl) (by kernel_rfl) (by kernel_rfl) (fun _ _ _ h => h) (Or.inl ⟨by kernel_rfl, ?_⟩) (by assumption) ?_
            rotate_left
            · (intro w hSw; (try dsimp only at hSw); go_simp; try (with_reducible rfl))
            (try simp only [Act.put]); (try simp only [List.setIfInBounds_toArray]); (try simp only [List.set_cons_succ]); (try simp only [List.set_cons_zero])
            refine wpAnyH_take (i := 14) (v := ?_) rfl (by kernel_rfl) (by kernel_rfl) (by kernel_rfl) (fun _ _ _ h => h) (Or.inl ⟨by kernel_rfl, ?_⟩) (by assumption) ?_
            rotate_left
            · (intro w hSw; (try dsimp only at hSw); go_simp; try (with_reducible rfl))
            (try simp only [Act.put]); (try simp only [List.setIfInBounds_toArray]); (try simp only [List.set_cons_succ]); (try simp only [List.set_cons_zero])
            refine wpAnyH_take (i := 15) (v := ?_) rfl (by kernel_rfl) (by kernel_rfl) (by kernel_rfl) (fun _ _ _ h => h) (Or.inl ⟨by kernel_rfl, ?_⟩) (by assumption) ?_
            rotate_left
            · (intro w hSw; (try dsimp only at hSw); go_simp; try (with_reducible rfl))
            (try simp only [Act.put]); (try simp only [List.setIfInBounds_toArray]); (try simp only [List.set_cons_succ]); (try simp only [List.set_cons_zero])
            refine wpAnyH_take (i := 16) (v := ?_) rfl (by kernel_rfl) (by kernel_rfl) (by kernel_rfl) (fun _ _ _ h => h) (Or.inl ⟨by kernel_rfl, ?_⟩) (by assumption) ?_
            rotate_left
            · (intro w hSw; (try dsimp only at hSw); go_simp; try (with_reducible rfl))
            (try simp only [Act.put]); (try simp only [List.setIfInBounds_toArray]); (try simp only [List.set_cons_succ]); (try simp only [List.set_cons_zero])
            refine wpAnyH_ready (rs := [9]) (by kernel_rfl) (by simp) ?_
            refine AllReadyH.cons rfl (fun K hK => ?_) AllReadyH.nil
            go_simp
            refine (HC.out _ (below_drew (Below.refl _ _))).mono ?_
            rintro e w3 ⟨b2, r2, c2, rfl, hb2, x3, hb3⟩
            have x1b : w3.cell? ⟨b1', r1 + v, none⟩ = some (.int .i64 u) := (hb3.cell (p := ⟨b1', r1 + v, none⟩) hb1r).trans HX.out
            dsimp only
            refine hK.out _ _ x1b (fun hHeld2 => ?_)
            clear hK K hHeld
            refine wpAnyH_take (i := 11) (v := ?_) rfl (by kernel_rfl) (by kernel_rfl) (by kernel_rfl) (fun _ _ _ h => h) (Or.inl ⟨by kernel_rfl, ?_⟩) (by assumption) ?_
            rotate_left
            · (intro w hSw; (try dsimp only at hSw); go_simp; try (with_reducible rfl))
            (try simp only [Act.put]); (try simp only [List.setIfInBounds_toArray]); (try simp only [List.set_cons_succ]); (try simp only [List.set_cons_zero])
            refine wpAnyH_ready (rs := [12]) (by kernel_rfl) (by simp) ?_
            refine AllReadyH.cons rfl (fun K hK => ?_) AllReadyH.nil
            go_simp
            refine hK.out _ _ x1b (fun hHeld3 => ?_)
            clear hK K hHeld2
            (try simp only [Act.put]); (try simp only [List.setIfInBounds_toArray]); (try simp only [List.set_cons_succ]); (try simp only [List.set_cons_zero])
            refine wpAnyH_take (i := 17) (v := ?_) rfl (by kernel_rfl) (by kernel_rfl) (by kernel_rfl) (fun _ _ _ h => h) (Or.inl ⟨by kernel_rfl, ?_⟩) (by assumption) ?_
            rotate_left
            · (intro w hSw; (try dsimp only at hSw); go_simp; try (with_reducible rfl))
            (try simp only [Act.put]); (try simp only [List.setIfInBounds_toArray]); (try simp only [List.set_cons_succ]); (try simp only [List.set_cons_zero])
            refine wpAnyH_take (i := 18) (v := ?_) rfl (by kernel_rfl) (by kernel_rfl) (by kernel_rfl) (fun _ _ _ h => h) (Or.inl ⟨by kernel_rfl, ?_⟩) (by assumption) ?_
            rotate_left
            · (intro w hSw; (try dsimp only at hSw); go_simp; try (with_reducible rfl))
            (try simp only [Act.put]); (try simp only [List.setIfInBounds_toArray]); (try simp only [List.set_cons_succ]); (try simp only [List.set_cons_zero])
            refine wpAnyH_done (by kernel_rfl) ?_ _
            have HB3 := Lib.hid (HBR.out.trans (((below_drew (Below.refl wr.heap.size wr)).trans hb3).mono hzr))
            clear x1 hb3 hb2 hHeld3
            try clear x3
            try clear x1b
            by_cases hzu : z = u
            · have hne : (z != u) = false := by simp; exact hzu
              have HF := Lib.hid (show R = (n : Int) from by
                rw [← HR.out]
                exact ridesV_yes HT.out hv4 (by rw [HQ.out, HU.out]; exact hpos) (by rw [HEN.out]; exact decide_eq_true hzu) HFEW.out (by omega))
              clear hzu hd
              go_wp2
              go_ret
              exact ⟨ret_int HF.out.symm, HB1.out.trans (HB3.out.mono hz1)⟩
            · have hne : (z != u) = true := by simp; exact hzu
              have HNE := Lib.hid (show enough rs s τ v n = false by rw [HEN.out]; exact decide_eq_false hzu)
              clear hzu
              go_wp2
              go_roundw
              case rel => first | exact ⟨n + 1, by omega, by go_num, fun m hm => by
                  rcases Nat.lt_or_ge m n with h | h
                  · exact HFEW.out m h
                  · obtain rfl : m = n := by omega
                    exact HNE.out, HB3.out⟩ | ((repeat apply Exists.intro); exact ⟨⟨n + 1, by omega, by go_num, fun m hm => by
                  rcases Nat.lt_or_ge m n with h | h
                  · exact HFEW.out m h
                  · obtain rfl : m = n := by omega
                    exact HNE.out, HB3.out⟩, rfl⟩)
              case measure => simp [intOf]; omega
          · have hd : decide (n < rs.length) = false := decide_eq_false hlt
            have hnn : n = rs.length := by omega
            have HF := Lib.hid (show R = (n : Int) from by
              rw [← HR.out]
              exact ridesV_yes HT.out hv4 (by rw [HQ.out, HU.out]; exact hpos) (enough_len HT.out v (by omega)) HFEW.out (by omega))
            clear x1
            go_wp2
            go_quiet (fail)
            go_wp2
            go_ret
            exact ⟨ret_int HF.out.symm, HB1.out.trans ((below_drewN HBR.out _).mono hz1)⟩
    · have hto' : inR to 0 4 = false := by simpa using hto
      have HF := Lib.hid (ridesV_no (rs := rs) (s := s) (τ := τ) (to := to) (by rw [hto', Bool.false_and, Bool.and_false]))
      have HST := Lib.hid (show ∀ X, Calls Try.prog 16 #[.int .i64 to] X fun e w' => e = .returned (.bool false) ∧ X = w' from fun X => by have := isStop_any to X; rw [hto'] at this; exact this)
      clear ht hr hs hqt hq hto hto' hvv
      go_enter Try.func6, Try.ntmps6
      go_wp2_with fail
      refine HI.out.mono ?_
      rw [HQ.out]
      rintro e w1 ⟨A1, c1, rfl, hc1, o1, b1⟩
      obtain ⟨b1', r1, rfl, hb1, hcc⟩ := o1.open (by rw [List.length_map]; omega)
      have HB1 := Lib.hid b1
      clear hcc o1 b1 hc1
      go_wp2_with (go_at_call 16; ((with_reducible refine (HST.out _).mono ?_); rintro e w' ⟨rfl, rfl⟩))
      go_ret
      exact ⟨ret_int HF.out.symm, HB1.out⟩
  · have ht' : tripB rs s τ = false := by simpa using ht
    have HF := Lib.hid (ridesV_no (rs := rs) (s := s) (τ := τ) (to := to) (by rw [ht', Bool.false_and]))
    have HI := Lib.hid (impE_no A c rs s τ w hr hs ht')
    clear ht ht' hr hs
    go_enter Try.func6, Try.ntmps6
    go_wp2_with fail
    refine HI.out.mono ?_
    rintro e w1 ⟨rfl, hb1⟩
    have HB1 := Lib.hid hb1
    clear hb1
    go_wp2
    go_ret
    exact ⟨ret_int HF.out.symm, HB1.out⟩
end Go.Proofs.Ytimbkclhkepgfaa
