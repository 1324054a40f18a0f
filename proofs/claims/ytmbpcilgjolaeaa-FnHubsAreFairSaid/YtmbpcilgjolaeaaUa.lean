/- HubCost of impl. No condition. -/
import Derived.Test.YtmbpcilgjolaeaaU8
namespace Go.Proofs.Ytmbpcilgjolaeaa
open Go.RowKit

/-- Row a laid up to k. -/
def hubP (D : Nat → Nat → Int) (h a k i k' : Nat) : Int := if i = a ∧ k ≤ k' then 0 else hubD D h i k'
theorem hubP_up {D : Nat → Nat → Int} {h a k : Nat} (e : k = a) (i k' : Nat) : hubP D h a (k + 1) i k' = hubP D h a k i k' := by
  unfold hubP
  by_cases e1 : i = a ∧ k + 1 ≤ k'
  · rw [if_pos e1, if_pos (by omega)]
  · rw [if_neg e1]
    by_cases e2 : i = a ∧ k ≤ k'
    · rw [if_pos e2, hubD, if_pos (by omega)]
    · rw [if_neg e2]
theorem hubP_put {D : Nat → Nat → Int} {h a k : Nat} (e : k ≠ a) (i k' : Nat) : hubP D h a (k + 1) i k' = upd (hubP D h a k) a k (D a h + D h k) i k' := by
  unfold hubP upd
  by_cases e0 : i = a ∧ k' = k
  · rw [if_neg (by omega), if_pos e0, hubD, if_neg (by omega), e0.1, e0.2]
  · rw [if_neg e0]
    show _ = (if i = a ∧ k ≤ k' then 0 else hubD D h i k')
    by_cases e1 : i = a ∧ k + 1 ≤ k'
    · rw [if_pos e1, if_pos (by omega)]
    · rw [if_neg e1, if_neg (by omega)]
theorem hubP_done {D : Nat → Nat → Int} {h a n : Nat} (i k' : Nat) (hk : k' < n) : hubD D h i k' = hubP D h a n i k' := by
  unfold hubP; rw [if_neg (by omega)]

set_option maxRecDepth 100000 in
set_option maxHeartbeats 8000000 in
theorem impHub_mat (A : Option Addr) (c n hub : Nat) (D : Nat → Nat → Int) (w : World) (hr : Grid w 0 w.heap.size A (mat n D)) (hm : RM n D) (hh : hub < n) :
    Calls Try.prog 32 #[.slice A n c, .int .i64 (hub : Int)] w (gRes w (mat n (hubD D hub))) := by
  obtain ⟨i0, hi0, hz0, hz1, hz2⟩ := info_parts Try.infoR
  obtain ⟨i3, hi3, hy0, hy1, hy2⟩ := info_parts Try.info3
  have hn1 := hm.n1
  have hn5 := hm.n5
  have hvr := impValidRates_any A c (mat n D) w hr (fun r hr => by rw [mat_rows hr]; omega)
  rw [mat_len, ratesB_mat hm] at hvr
  have HVR := Lib.hid hvr
  have HM := Lib.hid hm
  obtain ⟨bA, oA, p, q, cc, rfl, hsq⟩ := hr.sq (by omega)
  have HSQ := Lib.hid hsq
  have hir := isZone_any (hub : Int) (n : Int)
  rw [show inR (hub : Int) 0 ((n : Int) - 1) = true from inR_iff.2 (by omega)] at hir
  have HIR := Lib.hid hir
  clear hvr hm hr hsq hir
  go_enter Try.func32, Try.ntmps32
  go_wp2_with (first | (go_at_call 18; ((with_reducible refine HVR.out.mono ?_); rintro e w' ⟨rfl, rfl⟩)) | (go_at_call 52; ((with_reducible refine (HIR.out _).mono ?_); rintro e w' ⟨rfl, rfl⟩)) | (at_make; refine wpList_make_full _ rfl (.tmp 19) (.tmp 19) _ rfl w.heap.size 27 i0 (.slice none 0 0) 1 Try.underlying22 hi0 hz0 hz1 _ _ _ _ _ rfl rfl rfl rfl (by rw [hz2]; omega) (by unfold maxLen; omega) (Nat.le_refl _) ?_))
  intro w1 hown hg
  have HB1 := Lib.hid (show Below w.heap.size w w1 from (Below.refl _ _).grown hg (Nat.le_refl _) (by simp))
  have HM1 := Lib.hid (show SqPart w1 w.heap.size w.heap.size 0 n (fun _ => 0) (hubD D hub) from SqPart.start (by have := own_heapN hown; rw [toList_madeCells_one] at this; exact this) (Nat.le_refl _) _ _)
  clear hown hg
  go_wp2_with fail
  go_loopw [23] (fun v wr => ∃ (a : Nat) (b : Nat → Nat), a ≤ n ∧ v = .int .i64 a ∧ Hid (SqPart wr w.heap.size w.heap.size a n b (hubD D hub)) ∧ Below w.heap.size w wr) (fun v _ => n - (intOf v).toNat)
  case atStart => exact ⟨0, _, by omega, rfl, HM1, HB1.out⟩
  case round =>
    obtain ⟨a, b, ha, rfl, HS, hbr⟩ := hrel
    have HBR := Lib.hid hbr
    have hbz := hbr.size
    clear hbr HM1 HB1
    by_cases hla : a < n
    · have ha0 : (0 : Int) ≤ a := by omega
      have han : (a : Int) < n := by omega
      go_wp2_with (at_make; refine wpList_make_full _ rfl (.tmp 29) (.tmp 29) _ rfl wr.heap.size 3 i3 (.int .i64 0) 1 Try.underlying27 hi3 hy0 hy1 _ _ _ _ n rfl rfl rfl rfl (by rw [hy2]; omega) (by unfold maxLen; omega) (Nat.le_refl _) ?_)
      intro w2 hown2 hg2
      have hb2 : Below wr.heap.size wr w2 := (Below.refl _ _).grown hg2 (Nat.le_refl _) (by simp)
      obtain ⟨r1, r2, r3, r4⟩ := HS.out.row (E := hubP D hub a 0) hla hb2 hbz (by have := own_heapN hown2; rw [toList_madeCells_one] at this; exact this) (Nat.le_refl _) (fun i k hi hk => by unfold hubP; rw [if_neg (by omega)]) (fun k hk => by unfold hubP; rw [if_pos (by omega)])
      have HB2 := Lib.hid ((HBR.out.trans (hb2.mono hbz)).setCell (p := ⟨w.heap.size, a, none⟩) (Nat.le_refl _) (.slice (some ⟨wr.heap.size, 0, none⟩) n n))
      have HS2 := Lib.hid r4
      have r5 : (w2.setCell ⟨w.heap.size, a, none⟩ (.slice (some ⟨wr.heap.size, 0, none⟩) n n)).cell? ⟨w.heap.size, a, none⟩ = some (.slice (some ⟨wr.heap.size, 0, none⟩) n n) := World.cell?_setCell_same w2 _ _ r1
      have HR3 := Lib.hid r3
      obtain ⟨b', hb'⟩ : ∃ b' : Nat → Nat, (fun i => if i = a then wr.heap.size else b i) = b' := ⟨_, rfl⟩
      rw [hb'] at HS2
      clear hown2 hg2 hb2 r3 r4 hb' HBR hbz HS HR3
      go_wp2_with fail
      go_loopw [37] (fun v wr => ∃ k : Nat, k ≤ n ∧ v = .int .i64 k ∧ Hid (SqPart wr w.heap.size w.heap.size (a + 1) n b' (hubP D hub a k)) ∧ Below w.heap.size w wr) (fun v _ => n - (intOf v).toNat)
      case atStart => exact ⟨0, by omega, rfl, HS2, HB2.out⟩
      case round =>
        clear HS2 HB2 r1 r2 r5
        obtain ⟨k, hk, rfl, HS, hbr⟩ := hrel
        have HBR := Lib.hid hbr
        have hbz := hbr.size
        by_cases hlk : k < n
        · by_cases hka : k = a
          · have ht : ((k : Int) != (a : Int)) = false := by rw [hka]; simp
            have HF := Lib.hid (HS.out.congr (E := hubP D hub a (k + 1)) (fun i k' _ _ => hubP_up hka i k'))
            clear hka hbr
            go_wp2_with fail
            go_roundw
            case rel => exact ⟨k + 1, by omega, by go_num, Lib.hid HF.out, HBR.out⟩
            case measure => simp [intOf]; omega
          · have ht : ((k : Int) != (a : Int)) = true := by simp; omega
            have HKA := Lib.hid hka
            obtain ⟨⟨_, hgz, _⟩, hhd, hrow, _⟩ := HS.out
            have x1 := hhd a hla
            rw [if_pos (Nat.lt_succ_self a)] at x1
            obtain ⟨x2, x3, x4, x5, x6⟩ := hrow a (Nat.lt_succ_self a)
            have x8 := x5 k hlk
            have xf := x6 k
            obtain ⟨_, hall⟩ := HSQ.out.below hbr
            obtain ⟨y1, y2, y3⟩ := hall a hla
            obtain ⟨z1, z2, z3⟩ := hall hub hh
            have y5 := y3 hub hh
            have z4 := z3 k hlk
            have d3 := HM.out.lo a hub hla hh
            have d4 := HM.out.hi a hub hla hh
            have d5 := HM.out.lo hub k hh hlk
            have d6 := HM.out.hi hub k hh hlk
            have HPU := Lib.hid (fun i k' => hubP_put (D := D) (h := hub) hka i k')
            obtain ⟨u, hu⟩ : ∃ u, D a hub = u := ⟨_, rfl⟩
            obtain ⟨t, htt⟩ : ∃ t, D hub k = t := ⟨_, rfl⟩
            rw [hu] at y5 d3 d4 HPU
            rw [htt] at z4 d5 d6 HPU
            have i3' : (0 : Int) ≤ hub := by omega
            have i4 : (hub : Int) < n := by omega
            have i5 : (0 : Int) ≤ k := by omega
            have i6 : (k : Int) < n := by omega
            have hw : IntKind.i64.wrap (u + t) = u + t := IntWalk.i64_in _ (by omega)
            clear hall hhd hrow x5 x6 y3 z3 hu htt hbr hka x4
            go_wp2_with fail
            go_still_tail 21, (by kernel_rfl)
            change wpList _ _ _ _ _ wr.drew
            obtain ⟨W1, hW1⟩ : ∃ W1, wr.drew = W1 := ⟨_, rfl⟩
            have hb1 : Below wr.heap.size wr W1 := by rw [← hW1]; exact below_drewT _
            have n1 := cell_keep hb1 x3 x8
            have n2 : W1.frozen? ⟨b' a, k, none⟩ = false := by rw [hb1.frozen (p := ⟨b' a, k, none⟩) x3]; exact xf
            have HFIN := Lib.hid (And.intro ((HS.out.keep hb1).put (v := u + t) (Nat.lt_succ_self a) hlk) ((HBR.out.trans (hb1.mono hbz)).setCell (p := ⟨b' a, k, none⟩) x2 (.int .i64 (u + t))))
            rw [hW1]
            clear hW1 hb1 x1 x2 x3 x8 xf y1 y2 y5 z1 z2 z4 hw
            go_wp2_with fail
            go_roundw
            case rel => exact ⟨k + 1, by omega, by go_num, Lib.hid (HFIN.out.1.congr fun i k' _ _ => HPU.out i k'), HFIN.out.2⟩
            case measure => simp [intOf]; omega
        · have hkk : n = k := by omega
          subst hkk
          have HF := Lib.hid (HS.out.congr (E := hubD D hub) (fun i k' _ hk' => hubP_done i k' hk'))
          clear hbr
          go_wp2_with fail
          go_roundw
          case rel => exact ⟨a + 1, b', by omega, by go_num, Lib.hid HF.out, HBR.out⟩
          case measure => simp [intOf]; omega
    · have haa : n = a := by omega
      subst haa
      have HG := Lib.hid HS.out.done.mgrid
      go_wp2_with fail
      go_ret
      exact ⟨some ⟨w.heap.size, 0, none⟩, _, by rw [mat_len]; rfl, by rw [mat_len]; exact Nat.le_refl _, HG.out, HBR.out⟩

theorem hub_no {rs : List (List Int)} {h : Int} (e : ratesB rs = false) : hubV rs h = [] := hubV_no (by rw [hubB, e]; rfl)
theorem hub_out {rs : List (List Int)} {h : Int} (e : inR h 0 ((rs.length : Int) - 1) = false) : hubV rs h = [] := hubV_no (by rw [hubB, e, Bool.and_false])
set_option maxRecDepth 100000 in
theorem specHubCost_any (A : Option Addr) (c : Nat) (rs : List (List Int)) (h : Int) (w : World) (hr : Grid w 0 w.heap.size A rs) (hl : rs.length ≤ 1000000000) (hs : ∀ r ∈ rs, r.length ≤ 1000000000) :
    Calls Try.prog 31 #[.slice A rs.length c, .int .i64 h] w (gRes w (hubV rs h)) := by
  cases e : hubB rs h with
  | true =>
    obtain ⟨h1, h2, m, rfl, h3, h4⟩ := hubB_parts e
    rw [h4]
    exact specHub_mat A c rs.length m (cellOf rs) w (by rw [← h1]; exact hr) h2 h3
  | false =>
    have H := Lib.hid (validRates_low A c rs w hr hl hs)
    have HI := Lib.hid (inRange_any h 0 ((rs.length : Int) - 1))
    cases e1 : ratesB rs with
    | false =>
      rw [e1] at H
      have HF := Lib.hid (hub_no (h := h) e1)
      clear hs e e1
      go_enter Try.func31, Try.ntmps31
      go_wp2_with (go_at_call 44; ((with_reducible refine H.out.mono ?_); rintro e w' ⟨rfl, rfl⟩))
      go_ret
      exact gRes.nothing HF.out _
    | true =>
      rw [e1] at H
      have e2 : inR h 0 ((rs.length : Int) - 1) = false := by rw [hubB, e1, Bool.true_and] at e; exact e
      rw [e2] at HI
      have HF := Lib.hid (hub_out e2)
      have hw : IntKind.i64.wrap ((rs.length : Int) - 1) = (rs.length : Int) - 1 := IntWalk.i64_in _ (by omega)
      clear hs e e1 e2
      go_enter Try.func31, Try.ntmps31
      go_wp2_with (first | (go_at_call 44; ((with_reducible refine H.out.mono ?_); rintro e w' ⟨rfl, rfl⟩)) | (go_at_call 50; ((with_reducible refine (HI.out _).mono ?_); rintro e w' ⟨rfl, rfl⟩)))
      go_ret
      exact gRes.nothing HF.out _
set_option maxRecDepth 100000 in
theorem impHubCost_any (A : Option Addr) (c : Nat) (rs : List (List Int)) (h : Int) (w : World) (hr : Grid w 0 w.heap.size A rs) (hs : ∀ r ∈ rs, r.length ≤ 1000000000) :
    Calls Try.prog 32 #[.slice A rs.length c, .int .i64 h] w (gRes w (hubV rs h)) := by
  cases e : hubB rs h with
  | true =>
    obtain ⟨h1, h2, m, rfl, h3, h4⟩ := hubB_parts e
    rw [h4]
    exact impHub_mat A c rs.length m (cellOf rs) w (by rw [← h1]; exact hr) h2 h3
  | false =>
    have H := Lib.hid (impValidRates_any A c rs w hr hs)
    have HI := Lib.hid (isZone_any h (rs.length : Int))
    cases e1 : ratesB rs with
    | false =>
      rw [e1] at H
      have HF := Lib.hid (hub_no (h := h) e1)
      clear hs e e1
      go_enter Try.func32, Try.ntmps32
      go_wp2_with (go_at_call 18; ((with_reducible refine H.out.mono ?_); rintro e w' ⟨rfl, rfl⟩))
      go_ret
      exact gRes.nothing HF.out _
    | true =>
      rw [e1] at H
      have e2 : inR h 0 ((rs.length : Int) - 1) = false := by rw [hubB, e1, Bool.true_and] at e; exact e
      rw [e2] at HI
      have HF := Lib.hid (hub_out e2)
      clear hs e e1 e2
      go_enter Try.func32, Try.ntmps32
      go_wp2_with (first | (go_at_call 18; ((with_reducible refine H.out.mono ?_); rintro e w' ⟨rfl, rfl⟩)) | (go_at_call 52; ((with_reducible refine (HI.out _).mono ?_); rintro e w' ⟨rfl, rfl⟩)))
      go_ret
      exact gRes.nothing HF.out _
end Go.Proofs.Ytmbpcilgjolaeaa
