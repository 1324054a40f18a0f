/- CheapestOf on both sides. No condition. -/
import Derived.Test.YtmbpcilgjolaeaaU5
import Derived.Test.YtmbpcilgjolaeaaShelf
namespace Go.Proofs.Ytmbpcilgjolaeaa
open Go.RowKit

theorem cloneInts_any (A : Option Addr) (c : Nat) (zs : List Int) (w : World) (hr : Ints w w.heap.size A zs) (hl : zs.length ≤ 1000000) :
    Calls Try.prog 48 #[.slice A zs.length c] w fun e w' => ∃ A' c', e = .returned (.slice A' zs.length c') ∧ zs.length ≤ c' ∧ OwnInts w' w.heap.size w'.heap.size A' zs ∧ Below w.heap.size w w' := by
  by_cases h0 : zs = []
  · subst h0
    cases A with
    | none =>
      refine (Try.slices_Clone_int_nil 0 c w).mono ?_
      rintro e w' ⟨rfl, rfl⟩
      exact ⟨none, 0, rfl, by simp, .inl rfl, Below.refl _ _⟩
    | some a =>
      refine (Try.slices_Clone_int_zero a c w).mono ?_
      rintro e w' ⟨v', rfl, ho, _, hb⟩
      obtain ⟨A', c', rfl⟩ := own_form ho
      exact ⟨A', c', rfl, own_cap ho, .inl rfl, hb⟩
  · obtain ⟨b, o, rfl, _, hc⟩ := hr.open (by simp; exact List.length_pos_iff.2 h0)
    refine (Try.slices_Clone_int b o zs.length c zs w (Nat.le_refl _) (by omega) (fun j hj => by rw [getD_get hj]; exact ints_at hc hj)).mono ?_
    rintro e w' ⟨v', rfl, ho, _, hb⟩
    rw [List.take_length] at ho
    obtain ⟨A', c', rfl⟩ := own_form ho
    exact ⟨A', c', rfl, own_cap ho, own_row_cells ho, hb⟩

def cheapV (rs : List (List Int)) : List (List Int) := if ratesB rs then mat rs.length (fw7 rs.length (cellOf rs)) else []
theorem cheapV_no {rs : List (List Int)} (h : ratesB rs = false) : cheapV rs = [] := by rw [cheapV, h]; rfl
theorem cheapV_yes {rs : List (List Int)} (h : ratesB rs = true) : cheapV rs = mat rs.length (fw7 rs.length (cellOf rs)) := by rw [cheapV, h]; rfl
theorem gRes.nothing {V : List (List Int)} (hV : V = []) (w : World) : gRes w V (.returned (.slice none 0 0)) w := by
  subst hV
  exact ⟨none, 0, rfl, Nat.le_refl _, MGrid.nil _ _ _ _, Below.refl _ _⟩

set_option maxRecDepth 100000 in
theorem specCheapestOf_any (A : Option Addr) (c : Nat) (rs : List (List Int)) (w : World) (hr : Grid w 0 w.heap.size A rs) (hl : rs.length ≤ 1000000000) (hs : ∀ r ∈ rs, r.length ≤ 1000000000) :
    Calls Try.prog 20 #[.slice A rs.length c] w (gRes w (cheapV rs)) := by
  have H := Lib.hid (validRates_low A c rs w hr hl hs)
  cases h : ratesB rs with
  | false =>
    rw [h] at H
    have HF := Lib.hid (cheapV_no h)
    clear hs h
    go_enter Try.func20, Try.ntmps20
    go_wp2_with (go_at_call 44; ((with_reducible refine H.out.mono ?_); rintro e w' ⟨rfl, rfl⟩))
    go_ret
    exact gRes.nothing HF.out _
  | true =>
    rw [h] at H
    have HF := Lib.hid (cheapV_yes h)
    obtain ⟨h1, h2⟩ := rates_parts h
    have HC := Lib.hid (cheapest_mat A c rs.length (cellOf rs) w (by rw [← h1]; exact hr) h2.bd h2.n1 h2.n5)
    clear hs h h1 h2
    rw [HF.out]
    go_enter Try.func20, Try.ntmps20
    go_wp2_with (go_at_call 44; ((with_reducible refine H.out.mono ?_); rintro e w' ⟨rfl, rfl⟩))
    go_wp2_with (go_at_call 47; ((with_reducible refine HC.out.mono ?_); rintro e w' ⟨A2, c2, rfl, k2, k3, k4⟩))
    go_ret
    exact ⟨A2, c2, rfl, k2, k3, k4⟩

set_option maxRecDepth 100000 in
set_option maxHeartbeats 4000000 in
theorem impCheapest_mat (A : Option Addr) (c n : Nat) (E : Nat → Nat → Int) (w : World) (hr : Grid w 0 w.heap.size A (mat n E)) (hm : RM n E) :
    Calls Try.prog 21 #[.slice A n c] w (gRes w (mat n (fw7 n E))) := by
  obtain ⟨i0, hi0, hz0, hz1, hz2⟩ := info_parts Try.infoR
  have hn1 := hm.n1
  have hn5 := hm.n5
  have hvr := impValidRates_any A c (mat n E) w hr (fun r hr => by rw [mat_rows hr]; omega)
  rw [mat_len, ratesB_mat hm] at hvr
  have HVR := Lib.hid hvr
  have HM := Lib.hid hm
  clear hvr hm
  go_enter Try.func21, Try.ntmps21
  go_wp2_with (first | (go_at_call 18; ((with_reducible refine HVR.out.mono ?_); rintro e w' ⟨rfl, rfl⟩)) | (at_make; refine wpList_make_full _ rfl (.tmp 9) (.tmp 9) _ rfl w.heap.size 27 i0 (.slice none 0 0) 1 Try.underlying22 hi0 hz0 hz1 _ _ _ _ _ rfl rfl rfl rfl (by rw [hz2]; omega) (by unfold maxLen; omega) (Nat.le_refl _) ?_))
  intro w1 hown hg
  have hb1 : Below w.heap.size w w1 := (Below.refl _ _).grown hg (Nat.le_refl _) (by simp)
  have hblk := own_heapN hown
  have hcs : (madeCells #[Value.slice none 0 0] n).toList = List.replicate n (Value.slice none 0 0) := toList_madeCells_one _ _
  rw [hcs] at hblk
  have hst := MG.start hblk (Nat.le_refl _)
  have HB1 := Lib.hid (And.intro hst hb1)
  clear hown hg hb1 hblk hcs hst
  go_wp2_with fail
  go_loopw [13] (fun v wr => ∃ (k : Nat) (hs : List Value), k ≤ n ∧ v = .int .i64 k ∧ MG wr w.heap.size w.heap.size hs ((mat n E).take k ++ List.replicate ((mat n E).length - k) []) ∧ Below w.heap.size w wr) (fun v _ => n - (intOf v).toNat)
  case atStart => exact ⟨0, _, by omega, rfl, by simpa [mat_len] using HB1.out.1, HB1.out.2⟩
  case round =>
    obtain ⟨k, hs, hk, rfl, hmg, hbr⟩ := hrel
    clear HB1
    by_cases hlt : k < n
    · have hltm : k < (mat n E).length := by rw [mat_len]; exact hlt
      obtain ⟨b, o, R, c1, rfl, hb, hcell, hc1, ho⟩ := (hr.below hbr).open hltm
      have hrow : (mat n E)[k].length = n := mat_rows (List.getElem_mem hltm)
      have HMG := Lib.hid hmg
      have HBR := Lib.hid hbr
      have hbz := hbr.size
      have hcl := cloneInts_any R c1 (mat n E)[k] wr (ho.more hbz) (by rw [hrow]; omega)
      have HFS := Lib.hid (fill_set [] (mat n E) k hltm)
      have hkl : k < ((mat n E).take k ++ List.replicate ((mat n E).length - k) []).length := by rw [List.length_append, List.length_take, List.length_replicate]; omega
      obtain ⟨r, hre⟩ : ∃ r, (mat n E)[k] = r := ⟨_, rfl⟩
      rw [hre] at hcl hrow hcell HFS
      rw [hrow] at hcl hcell
      have HCL := Lib.hid hcl
      have HROW := Lib.hid hrow
      have HKL := Lib.hid hkl
      clear hc1 hmg hbr hcl ho hrow hkl hre hltm
      go_wp2_with fail
      refine HCL.out.mono ?_
      rintro e w2 ⟨A', c', rfl, hc', o2, b2⟩
      have hm2 := HMG.out.keep b2
      obtain ⟨y, hy⟩ : ∃ y, w2.cell? ⟨w.heap.size, k, none⟩ = some y := by obtain ⟨R0, c0, h, _⟩ := hm2.head HKL.out; exact ⟨_, h⟩
      have hfr := hm2.frozen k
      have hset := HMG.out.setHead b2 o2 (by rw [HROW.out]; exact hc') HKL.out
      rw [HFS.out, HROW.out] at hset
      have HSET := Lib.hid hset
      have HB2 := Lib.hid ((HBR.out.trans (b2.mono HBR.out.size)).setCell (p := ⟨w.heap.size, k, none⟩) (Nat.le_refl _) (.slice A' n c'))
      clear hm2 hset o2 b2
      go_wp2
      go_roundw
      case rel => exact ⟨k + 1, _, by omega, by go_num, HSET.out, HB2.out⟩
      case measure => simp [intOf]; omega
    · have hk' : k = n := by omega
      subst hk'
      have hfin : (mat k E).take k ++ List.replicate ((mat k E).length - k) [] = mat k E := by rw [List.take_of_length_le (by rw [mat_len]; omega), mat_len]; simp
      rw [hfin] at hmg
      obtain ⟨b, f, cc, hmat⟩ := MatAt.of (D := E) (n := k) hmg.mgrid (by omega)
      have HSH := Lib.hid (shorten_any w.heap.size w.heap.size k k b f cc E wr hmat HM.out.bd hn5)
      have HBR := Lib.hid hbr
      clear hfin hmg hbr hmat
      go_wp2_with fail
      refine HSH.out.mono ?_
      rintro e w2 ⟨rfl, hma, hb2⟩
      have HFIN := Lib.hid (And.intro hma.mgrid (HBR.out.trans hb2))
      clear hma hb2
      go_wp2
      go_ret
      exact ⟨some ⟨w.heap.size, 0, none⟩, k, by rw [mat_len]; rfl, by rw [mat_len]; exact Nat.le_refl _, HFIN.out.1, HFIN.out.2⟩

set_option maxRecDepth 100000 in
theorem impCheapestOf_any (A : Option Addr) (c : Nat) (rs : List (List Int)) (w : World) (hr : Grid w 0 w.heap.size A rs) (hs : ∀ r ∈ rs, r.length ≤ 1000000000) :
    Calls Try.prog 21 #[.slice A rs.length c] w (gRes w (cheapV rs)) := by
  cases h : ratesB rs with
  | false =>
    have H := Lib.hid (impValidRates_any A c rs w hr hs)
    rw [h] at H
    have HF := Lib.hid (cheapV_no h)
    clear hs h
    go_enter Try.func21, Try.ntmps21
    go_wp2_with (go_at_call 18; ((with_reducible refine H.out.mono ?_); rintro e w' ⟨rfl, rfl⟩))
    go_ret
    exact gRes.nothing HF.out _
  | true =>
    obtain ⟨h1, h2⟩ := rates_parts h
    rw [cheapV_yes h]
    exact impCheapest_mat A c rs.length (cellOf rs) w (by rw [← h1]; exact hr) h2
theorem cheapV_bd (rs : List (List Int)) : (cheapV rs).length ≤ 5 ∧ ∀ r ∈ cheapV rs, r.length ≤ 5 := by
  cases h : ratesB rs with
  | false => rw [cheapV_no h]; simp
  | true =>
    have h2 := (rates_parts h).2
    rw [cheapV_yes h]
    have := h2.n5
    exact ⟨by rw [mat_len]; exact this, fun r hr => by rw [mat_rows hr]; exact this⟩
end Go.Proofs.Ytmbpcilgjolaeaa
