/- ChainOf on both sides. No condition. -/
import Derived.Test.YtmbpcilgjolaeaaUo
import Derived.Test.YtmbpcilgjolaeaaUp
import Derived.Test.YtmbpcilgjolaeaaU8
namespace Go.Proofs.Ytmbpcilgjolaeaa
open Go.RowKit

def chainB (rs : List (List Int)) (i k : Int) : Bool := ratesB rs && (inR i 0 ((rs.length : Int) - 1) && inR k 0 ((rs.length : Int) - 1))
/-- The chain, or nothing. -/
def IsCh (rs : List (List Int)) (i k : Int) (V : List Int) : Prop := (chainB rs i k = false ∧ V = []) ∨ (chainB rs i k = true ∧ ∃ T, IsChain rs.length (cellOf rs) i.toNat k.toNat T ∧ V = ints (i.toNat :: T))
theorem chainB_parts {rs : List (List Int)} {i k : Int} (h : chainB rs i k = true) : rs = mat rs.length (cellOf rs) ∧ RM rs.length (cellOf rs) ∧ ∃ a b : Nat, i = (a : Int) ∧ k = (b : Int) ∧ a < rs.length ∧ b < rs.length := by
  simp only [chainB, Bool.and_eq_true] at h
  obtain ⟨h1, h2⟩ := rates_parts h.1
  have h3 := inR_iff.1 h.2.1
  have h4 := inR_iff.1 h.2.2
  exact ⟨h1, h2, i.toNat, k.toNat, by omega, by omega, by omega, by omega⟩
theorem exists_ch (rs : List (List Int)) (i k : Int) : ∃ V, IsCh rs i k V := by
  cases h : chainB rs i k with
  | false => exact ⟨[], .inl ⟨h, rfl⟩⟩
  | true =>
    obtain ⟨_, h2, a, b, rfl, rfl, ha, hb⟩ := chainB_parts h
    obtain ⟨T, hT⟩ := exists_chain h2 ha hb
    exact ⟨_, .inr ⟨h, T, hT, rfl⟩⟩
theorem IsCh.no {rs : List (List Int)} {i k : Int} {V : List Int} (h : IsCh rs i k V) (e : chainB rs i k = false) : V = [] := by
  rcases h with ⟨_, h⟩ | ⟨h, _⟩
  · exact h
  · rw [e] at h; cases h
theorem IsCh.yes {rs : List (List Int)} {a b : Nat} {V : List Int} (h : IsCh rs (a : Int) (b : Int) V) (e : chainB rs a b = true) {T : List Nat} (hT : IsChain rs.length (cellOf rs) a b T) (hn : 0 < rs.length) : V = ints (a :: T) := by
  rcases h with ⟨h, _⟩ | ⟨_, U, hU, hV⟩
  · rw [e] at h; cases h
  · rw [Int.toNat_natCast, Int.toNat_natCast] at hU
    rw [hV, hT.one hU hn, Int.toNat_natCast]
theorem IsCh.len {rs : List (List Int)} {i k : Int} {V : List Int} (h : IsCh rs i k V) : V.length ≤ 5 := by
  rcases h with ⟨_, h⟩ | ⟨h, T, hT, hV⟩
  · rw [h]; simp
  · obtain ⟨_, h2, a, b, rfl, rfl, ha, hb⟩ := chainB_parts h
    rw [Int.toNat_natCast, Int.toNat_natCast] at hT
    have := few (n := rs.length) hT.nodup (fun y hy => by
      rcases List.mem_cons.1 hy with rfl | hy
      · exact ha
      · exact hT.lt y hy)
    rw [hV, ints_len, Int.toNat_natCast]
    have := h2.n5
    omega
theorem chain_self {n i : Nat} {D : Nat → Nat → Int} (h : RM n D) (hi : i < n) : IsChain n D i i [] :=
  ⟨fun y hy => by simp at hy, rfl, by rw [(fw_rm h).dg i hi]; rfl, fun t _ _ _ => Nat.zero_le _, fun t _ _ _ _ => Nat.zero_le _, by simp⟩

set_option maxRecDepth 100000 in
set_option maxHeartbeats 8000000 in
theorem specChain_mat (A : Option Addr) (c n a b : Nat) (D : Nat → Nat → Int) (w : World) (hr : Grid w 0 w.heap.size A (mat n D)) (hm : RM n D) (ha : a < n) (hb : b < n) {T : List Nat} (hT : IsChain n D a b T) :
    Calls Try.prog 26 #[.slice A n c, .int .i64 (a : Int), .int .i64 (b : Int)] w (iRes w (ints (a :: T))) := by
  have hn1 := hm.n1
  have hn5 := hm.n5
  have hvr := validRates_low A c (mat n D) w hr (by rw [mat_len]; omega) (fun r hr => by rw [mat_rows hr]; omega)
  rw [mat_len, ratesB_mat hm] at hvr
  have HVR := Lib.hid hvr
  have hia := inRange_any (a : Int) 0 ((n : Int) - 1)
  rw [show inR (a : Int) 0 ((n : Int) - 1) = true from inR_iff.2 (by omega)] at hia
  have HIA := Lib.hid hia
  have hib := inRange_any (b : Int) 0 ((n : Int) - 1)
  rw [show inR (b : Int) 0 ((n : Int) - 1) = true from inR_iff.2 (by omega)] at hib
  have HIB := Lib.hid hib
  have HCH := Lib.hid (cheapest_mat A c n D w hr hm.bd hn1 hn5)
  have HM := Lib.hid hm
  have HT := Lib.hid hT
  have HR := Lib.hid hr
  have hw : IntKind.i64.wrap ((n : Int) - 1) = (n : Int) - 1 := IntWalk.i64_in _ (by omega)
  have HSO := Lib.hid (search_some hm ha hb)
  clear hvr hia hib hm hT hr
  go_enter Try.func26, Try.ntmps26
  go_wp2_with (first | (go_at_call 44; ((with_reducible refine HVR.out.mono ?_); rintro e w' ⟨rfl, rfl⟩)) | (go_at_call 50; first | ((with_reducible refine (HIA.out _).mono ?_); rintro e w' ⟨rfl, rfl⟩) | ((with_reducible refine (HIB.out _).mono ?_); rintro e w' ⟨rfl, rfl⟩)))
  refine HCH.out.mono ?_
  rintro e w1 ⟨A1, c1, rfl, hc1, hm1, hb1⟩
  rw [mat_len]
  obtain ⟨b1, o1, p1, q1, k1, rfl, hsq⟩ := hm1.row.sq (by omega)
  obtain ⟨_, hall⟩ := hsq
  obtain ⟨x1, _, x3⟩ := hall a ha
  have x4 := x3 b hb
  have d1 := (fw_rm HM.out).lo a b ha hb
  have d2 := (fw_rm HM.out).hi a b ha hb
  obtain ⟨best, hbest⟩ : ∃ u, fw7 n D a b = u := ⟨_, rfl⟩
  rw [hbest] at x4 d1 d2 HSO
  have HBE := Lib.hid hbest
  have HB1 := Lib.hid hb1
  have i1 : (0 : Int) ≤ a := by omega
  have i2 : (a : Int) < n := by omega
  have i3 : (0 : Int) ≤ b := by omega
  have i4 : (b : Int) < n := by omega
  clear hc1 hm1 hb1 hall x3 hbest hw
  go_wp2_with fail
  go_loopw [8] (fun v wr => ∃ s : Nat, v = .int .i64 (s : Int) ∧ Hid (∀ s', s' < s → search D n b s' a best = none) ∧ Below w.heap.size w wr) (fun v _ => n - (intOf v).toNat)
  case atStart => exact ⟨0, rfl, Lib.hid (fun s' h => by omega), HB1.out⟩
  case round =>
    obtain ⟨s, rfl, HNO, hbr⟩ := hrel
    have HBR := Lib.hid hbr
    have hbz := hbr.size
    have hsn : s < n := by
      obtain ⟨s0, h1, T0, h2⟩ := HSO.out
      apply Nat.lt_of_not_le
      intro hle
      rw [HNO.out s0 (by omega)] at h2
      cases h2
    have hba : Below wr.heap.size wr (wr.alloc (.cells #[.int .i64 (a : Int)] 3)) := (Below.refl _ _).alloc (Nat.le_refl _) _
    have hown : OwnInts (wr.alloc (.cells #[.int .i64 (a : Int)] 3)) w.heap.size (wr.alloc (.cells #[.int .i64 (a : Int)] 3)).heap.size (some ⟨wr.heap.size, 0, none⟩) (ints ([] ++ [a])) :=
      own_block (xs := [.int .i64 (a : Int)]) (heap_alloc_new wr _) hbz
    have hcf := chainFrom_any D n b HM.out hb s (s : Int) A (some ⟨wr.heap.size, 0, none⟩) c 1 0 [] a best w.heap.size _ rfl (by omega) rfl (by omega) ha d1 (by omega) (by simp; omega) (by omega) ((HR.out.below (hbr.trans (hba.mono hbz))).more (by simp; omega)) hown
    have HCF := Lib.hid hcf
    have HBA := Lib.hid (hbr.trans (hba.mono hbz))
    have hzz : w.heap.size ≤ (wr.alloc (.cells #[.int .i64 (a : Int)] 3)).heap.size := HBA.out.size
    clear hba hown hcf hbr x1 x4
    go_wp2_with fail
    refine HCF.out.mono ?_
    intro e w5 hpost
    obtain ⟨v5, b5, rfl, hb5, HRES⟩ := hpost.way
    have HB5 := Lib.hid (HBA.out.trans (hb5.mono hzz))
    clear hb5 hpost
    cases b5 with
    | true =>
      obtain ⟨U, A', c', hs1, hv, hc1, ho1⟩ := HRES.out.1 rfl
      have hch := search_is HM.out ha (k := b) (s := s) (T := U) (by rw [HBE.out]; exact HNO.out) (by rw [HBE.out]; exact hs1)
      have hTU := hch.one HT.out (by omega)
      have hl := (search_sound hs1).1
      obtain ⟨Q, hQ⟩ : ∃ Q, (ints (a :: T)).length = Q := ⟨_, rfl⟩
      rw [show ([] : List Nat).length + 1 + s = Q by rw [← hQ, ints_len, ← hTU, List.length_cons, hl, List.length_nil]; omega] at hv hc1
      subst hv
      have HF := Lib.hid (show iRes w (ints (a :: T)) (.returned (.slice A' Q c')) w5 from ⟨A', c', by rw [hQ], by rw [hQ]; exact hc1, by rw [← hTU]; exact ho1, HB5.out⟩)
      clear hQ hs1 hc1 ho1 hch hTU hl
      go_wp2_with fail
      go_ret
      exact HF.out
    | false =>
      have HN2 := Lib.hid (show ∀ s', s' < s + 1 → search D n b s' a best = none from fun s' h => by
        by_cases e : s' = s
        · rw [e]; exact HRES.out.2 rfl
        · exact HNO.out s' (by omega))
      go_wp2_with fail
      go_roundw
      case rel => exact ⟨s + 1, by go_num, Lib.hid HN2.out, HB5.out⟩
      case measure => simp [intOf]; omega

set_option maxRecDepth 100000 in
set_option maxHeartbeats 4000000 in
theorem impChain_mat (A : Option Addr) (c n a b : Nat) (D : Nat → Nat → Int) (w : World) (hr : Grid w 0 w.heap.size A (mat n D)) (hm : RM n D) (ha : a < n) (hb : b < n) {T : List Nat} (hT : IsChain n D a b T) :
    Calls Try.prog 27 #[.slice A n c, .int .i64 (a : Int), .int .i64 (b : Int)] w (iRes w (ints (a :: T))) := by
  have hn1 := hm.n1
  have hvr := impValidRates_any A c (mat n D) w hr (fun r hr => by rw [mat_rows hr]; have := hm.n5; omega)
  rw [mat_len, ratesB_mat hm] at hvr
  have HVR := Lib.hid hvr
  have hia := isZone_any (a : Int) (n : Int)
  rw [show inR (a : Int) 0 ((n : Int) - 1) = true from inR_iff.2 (by omega)] at hia
  have HIA := Lib.hid hia
  have hib := isZone_any (b : Int) (n : Int)
  rw [show inR (b : Int) 0 ((n : Int) - 1) = true from inR_iff.2 (by omega)] at hib
  have HIB := Lib.hid hib
  by_cases hab : a = b
  · have hT2 := hT
    rw [← hab] at hT2
    have hnil := hT2.one (chain_self hm ha) (by omega)
    have he : ((a : Int) == (b : Int)) = true := by rw [hab]; simp
    have HN := Lib.hid hnil
    clear hvr hia hib hm hT hT2 hr hnil hab
    go_enter Try.func27, Try.ntmps27
    go_wp2_with (first | (go_at_call 18; ((with_reducible refine HVR.out.mono ?_); rintro e w' ⟨rfl, rfl⟩)) | (go_at_call 52; first | ((with_reducible refine (HIA.out _).mono ?_); rintro e w' ⟨rfl, rfl⟩) | ((with_reducible refine (HIB.out _).mono ?_); rintro e w' ⟨rfl, rfl⟩)))
    go_ret
    rw [HN.out]
    exact ⟨some ⟨w.heap.size, 0, none⟩, 1, rfl, Nat.le_refl _, own_block (xs := [.int .i64 (a : Int)]) (heap_alloc_new w _) (Nat.le_refl _), (Below.refl _ _).alloc (Nat.le_refl _) _⟩
  · have hcc := cheapestChain_any A c n a b D w hr hm ha hb (by omega)
    rw [tryB_chain hm ha hb hab hT] at hcc
    have HCC := Lib.hid hcc
    have he : ((a : Int) == (b : Int)) = false := by simp; omega
    clear hvr hia hib hm hT hr hcc hab
    go_enter Try.func27, Try.ntmps27
    go_wp2_with (first | (go_at_call 18; ((with_reducible refine HVR.out.mono ?_); rintro e w' ⟨rfl, rfl⟩)) | (go_at_call 52; first | ((with_reducible refine (HIA.out _).mono ?_); rintro e w' ⟨rfl, rfl⟩) | ((with_reducible refine (HIB.out _).mono ?_); rintro e w' ⟨rfl, rfl⟩)))
    refine HCC.out.mono ?_
    rintro e w2 ⟨A2, c2, rfl, k1, k2, k3⟩
    have HK := Lib.hid (And.intro k1 (And.intro k2 k3))
    clear k1 k2 k3
    go_wp2_with fail
    go_ret
    exact ⟨A2, c2, rfl, HK.out.1, HK.out.2.1, HK.out.2.2⟩

theorem ch_out1 {rs : List (List Int)} {i k : Int} (e : inR i 0 ((rs.length : Int) - 1) = false) : chainB rs i k = false := by rw [chainB, e, Bool.false_and, Bool.and_false]
set_option maxRecDepth 100000 in
theorem specChainOf_any (A : Option Addr) (c : Nat) (rs : List (List Int)) (i k : Int) (w : World) (hr : Grid w 0 w.heap.size A rs) (hl : rs.length ≤ 1000000000) (hs : ∀ r ∈ rs, r.length ≤ 1000000000) {V : List Int} (hV : IsCh rs i k V) :
    Calls Try.prog 26 #[.slice A rs.length c, .int .i64 i, .int .i64 k] w (iRes w V) := by
  cases e : chainB rs i k with
  | true =>
    obtain ⟨h1, h2, a, b, rfl, rfl, ha, hb⟩ := chainB_parts e
    obtain ⟨T, hT⟩ := exists_chain h2 ha hb
    rw [hV.yes e hT (by omega)]
    exact specChain_mat A c rs.length a b (cellOf rs) w (by rw [← h1]; exact hr) h2 ha hb hT
  | false =>
    have HF := Lib.hid (hV.no e)
    have H := Lib.hid (validRates_low A c rs w hr hl hs)
    have HI := Lib.hid (inRange_any i 0 ((rs.length : Int) - 1))
    have HK := Lib.hid (inRange_any k 0 ((rs.length : Int) - 1))
    have hw : IntKind.i64.wrap ((rs.length : Int) - 1) = (rs.length : Int) - 1 := IntWalk.i64_in _ (by omega)
    clear hs hr hV
    cases e1 : ratesB rs with
    | false =>
      rw [e1] at H
      clear e e1
      go_enter Try.func26, Try.ntmps26
      go_wp2_with (go_at_call 44; ((with_reducible refine H.out.mono ?_); rintro e w' ⟨rfl, rfl⟩))
      go_ret
      exact iRes.none HF.out (Below.refl _ _)
    | true =>
      rw [e1] at H
      cases e2 : inR i 0 ((rs.length : Int) - 1) with
      | false =>
        rw [e2] at HI
        clear e e1 e2
        go_enter Try.func26, Try.ntmps26
        go_wp2_with (first | (go_at_call 44; ((with_reducible refine H.out.mono ?_); rintro e w' ⟨rfl, rfl⟩)) | (go_at_call 50; ((with_reducible refine (HI.out _).mono ?_); rintro e w' ⟨rfl, rfl⟩)))
        go_ret
        exact iRes.none HF.out (Below.refl _ _)
      | true =>
        have e3 : inR k 0 ((rs.length : Int) - 1) = false := by rw [chainB, e1, e2, Bool.true_and, Bool.true_and] at e; exact e
        rw [e2] at HI
        rw [e3] at HK
        clear e e1 e2 e3
        go_enter Try.func26, Try.ntmps26
        go_wp2_with (first | (go_at_call 44; ((with_reducible refine H.out.mono ?_); rintro e w' ⟨rfl, rfl⟩)) | (go_at_call 50; first | ((with_reducible refine (HI.out _).mono ?_); rintro e w' ⟨rfl, rfl⟩) | ((with_reducible refine (HK.out _).mono ?_); rintro e w' ⟨rfl, rfl⟩)))
        go_ret
        exact iRes.none HF.out (Below.refl _ _)
set_option maxRecDepth 100000 in
theorem impChainOf_any (A : Option Addr) (c : Nat) (rs : List (List Int)) (i k : Int) (w : World) (hr : Grid w 0 w.heap.size A rs) (hs : ∀ r ∈ rs, r.length ≤ 1000000000) {V : List Int} (hV : IsCh rs i k V) :
    Calls Try.prog 27 #[.slice A rs.length c, .int .i64 i, .int .i64 k] w (iRes w V) := by
  cases e : chainB rs i k with
  | true =>
    obtain ⟨h1, h2, a, b, rfl, rfl, ha, hb⟩ := chainB_parts e
    obtain ⟨T, hT⟩ := exists_chain h2 ha hb
    rw [hV.yes e hT (by omega)]
    exact impChain_mat A c rs.length a b (cellOf rs) w (by rw [← h1]; exact hr) h2 ha hb hT
  | false =>
    have HF := Lib.hid (hV.no e)
    have H := Lib.hid (impValidRates_any A c rs w hr hs)
    have HI := Lib.hid (isZone_any i (rs.length : Int))
    have HK := Lib.hid (isZone_any k (rs.length : Int))
    clear hs hr hV
    cases e1 : ratesB rs with
    | false =>
      rw [e1] at H
      clear e e1
      go_enter Try.func27, Try.ntmps27
      go_wp2_with (go_at_call 18; ((with_reducible refine H.out.mono ?_); rintro e w' ⟨rfl, rfl⟩))
      go_ret
      exact iRes.none HF.out (Below.refl _ _)
    | true =>
      rw [e1] at H
      cases e2 : inR i 0 ((rs.length : Int) - 1) with
      | false =>
        rw [e2] at HI
        clear e e1 e2
        go_enter Try.func27, Try.ntmps27
        go_wp2_with (first | (go_at_call 18; ((with_reducible refine H.out.mono ?_); rintro e w' ⟨rfl, rfl⟩)) | (go_at_call 52; ((with_reducible refine (HI.out _).mono ?_); rintro e w' ⟨rfl, rfl⟩)))
        go_ret
        exact iRes.none HF.out (Below.refl _ _)
      | true =>
        have e3 : inR k 0 ((rs.length : Int) - 1) = false := by rw [chainB, e1, e2, Bool.true_and, Bool.true_and] at e; exact e
        rw [e2] at HI
        rw [e3] at HK
        clear e e1 e2 e3
        go_enter Try.func27, Try.ntmps27
        go_wp2_with (first | (go_at_call 18; ((with_reducible refine H.out.mono ?_); rintro e w' ⟨rfl, rfl⟩)) | (go_at_call 52; first | ((with_reducible refine (HI.out _).mono ?_); rintro e w' ⟨rfl, rfl⟩) | ((with_reducible refine (HK.out _).mono ?_); rintro e w' ⟨rfl, rfl⟩)))
        go_ret
        exact iRes.none HF.out (Below.refl _ _)
end Go.Proofs.Ytmbpcilgjolaeaa
