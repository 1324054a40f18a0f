/- Marks in rows of rows. No condition. -/
import Derived.Test.YtonnffilcmlodaaG1
namespace Go.Proofs.Ytonnffilcmlodaa
open Go.RowKit

/-- Blocks from base on and below B may have been written, and new ones. -/
def WroteIn (base B : Nat) (w w' : World) : Prop :=
  w'.os = w.os ∧ w'.tape = w.tape ∧ w'.output = w.output ∧ w.heap.size ≤ w'.heap.size ∧ ∀ i, i < w.heap.size → (i < base ∨ B ≤ i) → w'.heap[i]? = w.heap[i]?
section
variable {w w' w'' : World} {base base' B B' b0 B0 : Nat} {A : Option Addr} {xs : List Value} {rs : List (List Int)} {row : Option Nat}
theorem WroteIn.refl (w : World) (base B : Nat) : WroteIn base B w w := ⟨rfl, rfl, rfl, Nat.le_refl _, fun _ _ _ => rfl⟩
theorem WroteIn.trans (h : WroteIn base B w w') (k : WroteIn base B w' w'') : WroteIn base B w w'' :=
  ⟨k.1.trans h.1, k.2.1.trans h.2.1, k.2.2.1.trans h.2.2.1, Nat.le_trans h.2.2.2.1 k.2.2.2.1, fun i hi hr => (k.2.2.2.2 i (Nat.lt_of_lt_of_le hi h.2.2.2.1) hr).trans (h.2.2.2.2 i hi hr)⟩
theorem Wrote.wide (h : Wrote b0 B0 w w') (h1 : base ≤ b0) (h2 : B0 ≤ B) : WroteIn base B w w' := by
  obtain ⟨row, hg, hr⟩ := h
  exact ⟨hg.os, hg.tape, hg.output, hg.size, fun i hi hib => hg.block i hi (fun e => by have := hr i e.symm; omega)⟩
theorem WroteIn.size (h : WroteIn base B w w') : w.heap.size ≤ w'.heap.size := h.2.2.2.1
theorem WroteIn.below (h : WroteIn b0 B0 w w') (hB : B ≤ b0) (hBw : B ≤ w.heap.size) : Below B w w' :=
  ⟨h.1, h.2.1, h.2.2.1, h.2.2.2.1, fun i hi => h.2.2.2.2 i (by omega) (.inl (by omega))⟩
theorem Own.keptIn (h : Own w base B A xs) (hB : B ≤ w.heap.size) (hg : WroteIn b0 B0 w w') (hne : xs ≠ [] → ∀ b o, A = some ⟨b, o, none⟩ → base ≤ b + 1 → b < B → b < b0 ∨ B0 ≤ b) : Own w' base B A xs := by
  rcases h with h | ⟨b, o, rfl, h0, hlt, hc, hf⟩
  · exact .inl h
  · by_cases hx : xs = []
    · exact .inl hx
    · have hb := hg.2.2.2.2 b (by omega) (hne hx b o rfl h0 hlt)
      exact .inr ⟨b, o, rfl, h0, hlt, fun j u hu => (World.cell?_of_block (a := ⟨b, o + j, none⟩) hb).trans (hc j u hu), fun h j => (World.frozen?_of_block (a := ⟨b, j, none⟩) hb).trans (hf h j)⟩
theorem WroteIn.apart (hw : WroteIn b0 B0 w w') (h : Own w (base + 1) B A xs) (hB : B ≤ w.heap.size) (hlt : B0 ≤ base) : Own w' (base + 1) B A xs :=
  h.keptIn hB hw (fun _ _ _ _ _ _ => .inr (by omega))
theorem WroteIn.elder (hw : WroteIn b0 B0 w w') (h : Own w base B A xs) (hB : B ≤ w.heap.size) (hlt : B ≤ b0) : Own w' base B A xs :=
  h.keptIn hB hw (fun _ _ _ _ _ _ => .inl (by omega))
theorem WroteIn.gridElder (hw : WroteIn b0 B0 w w') (h : Grid w base B A rs) (hB : B ≤ w.heap.size) (hlt : B ≤ b0) : Grid w' base B A rs := by
  obtain ⟨hs, h1, h2⟩ := h
  refine ⟨hs, hw.elder h1 hB hlt, h2.1, fun i hi => ?_⟩
  obtain ⟨R, c, h3, h4, h5⟩ := h2.2 i hi
  exact ⟨R, c, h3, h4, hw.elder h5 hB hlt⟩

/-- A row of its own block alone. -/
theorem Own.tight {b o : Nat} (h : Own w (base + 1) B (some ⟨b, o, none⟩) xs) : Own w (b + 1) (b + 1) (some ⟨b, o, none⟩) xs := by
  rcases h with h | ⟨b', o', hA, h0, hlt, hc, hf⟩
  · exact .inl h
  · simp only [Option.some.injEq, Addr.mk.injEq, and_true] at hA
    obtain ⟨rfl, rfl⟩ := hA
    exact .inr ⟨b, o, rfl, by omega, by omega, hc, fun _ => hf (by omega)⟩
theorem Own.loose {b o : Nat} (h : Own w (b + 1) (b + 1) (some ⟨b, o, none⟩) xs) (h1 : base ≤ b) (h2 : b < B) : Own w (base + 1) B (some ⟨b, o, none⟩) xs := by
  rcases h with h | ⟨b', o', hA, h0, hlt, hc, hf⟩
  · exact .inl h
  · simp only [Option.some.injEq, Addr.mk.injEq, and_true] at hA
    obtain ⟨rfl, rfl⟩ := hA
    exact .inr ⟨b, o, rfl, by omega, h2, hc, fun _ => hf (by omega)⟩
end

/-- Rows of the call's own, no two of which share memory. -/
def MGrid (w : World) (base B : Nat) (A : Option Addr) (rs : List (List Int)) : Prop :=
  ∃ hs, Own w (base + 1) B A hs ∧ GridAt w (base + 1) B hs rs ∧ GridApart (A.map (·.block)) hs rs
section
variable {w w' : World} {base base' B B' b0 B0 : Nat} {A : Option Addr} {rs : List (List Int)}
theorem MGrid.grid (h : MGrid w base B A rs) : Grid w (base + 1) B A rs := by
  obtain ⟨hs, h1, h2, _⟩ := h
  exact ⟨hs, h1, h2⟩
theorem MGrid.row (h : MGrid w base B A rs) : Grid w 0 B A rs := h.grid.row
theorem MGrid.below (h : MGrid w base B A rs) (hb : Below B w w') : MGrid w' base B A rs := by
  obtain ⟨hs, h1, h2, h3⟩ := h
  exact ⟨hs, h1.below hb, h2.below hb, h3⟩
theorem MGrid.keep (h : MGrid w base B A rs) (hB : B ≤ w.heap.size) (hb : Below w.heap.size w w') : MGrid w' base B A rs := h.below (hb.mono hB)
theorem MGrid.more (h : MGrid w base B A rs) (hB : B ≤ B') : MGrid w base B' A rs := by
  obtain ⟨hs, h1, h2, h3⟩ := h
  exact ⟨hs, h1.more hB, h2.more hB, h3⟩
theorem MGrid.nil (w : World) (base B : Nat) (A : Option Addr) : MGrid w base B A [] := ⟨[], .inl rfl, ⟨rfl, fun i hi => by simp at hi⟩, ⟨fun i j hi => by simp at hi, fun i hi => by simp at hi⟩⟩
theorem WroteIn.mgridApart (hw : WroteIn b0 B0 w w') (h : MGrid w base B A rs) (hB : B ≤ w.heap.size) (hlt : B0 ≤ base) : MGrid w' base B A rs := by
  obtain ⟨hs, h1, h2, h3⟩ := h
  refine ⟨hs, hw.apart h1 hB hlt, ⟨h2.1, fun i hi => ?_⟩, h3⟩
  obtain ⟨R, c, h4, h5, h6⟩ := h2.2 i hi
  exact ⟨R, c, h4, h5, hw.apart h6 hB hlt⟩
theorem WroteIn.mgridElder (hw : WroteIn b0 B0 w w') (h : MGrid w base B A rs) (hB : B ≤ w.heap.size) (hlt : B ≤ b0) : MGrid w' base B A rs := by
  obtain ⟨hs, h1, h2, h3⟩ := h
  refine ⟨hs, hw.elder h1 hB hlt, ⟨h2.1, fun i hi => ?_⟩, h3⟩
  obtain ⟨R, c, h4, h5, h6⟩ := h2.2 i hi
  exact ⟨R, c, h4, h5, hw.elder h6 hB hlt⟩
end

theorem apart_marks {g : Option Nat} {hs : List Value} {rs ms : List (List Int)} (h : GridApart g hs rs) (hl : ms.length = rs.length) (he : ∀ (i : Nat) (hi : i < rs.length), (ms[i]'(by omega)).length = rs[i].length) : GridApart g hs ms := by
  have hne : ∀ (i : Nat) (hi : i < rs.length), (ms[i]'(by omega)) ≠ [] → rs[i] ≠ [] := fun i hi h1 h2 => by
    have := he i hi; rw [h2] at this; exact h1 (List.eq_nil_of_length_eq_zero this)
  refine ⟨fun i j hi hj A B c d hij h1 h2 h3 h4 => ?_, fun i hi A c h1 h3 => ?_⟩
  · rw [he i (by omega)] at h3
    rw [he j (by omega)] at h4
    exact h.1 i j (by omega) (by omega) A B c d hij (hne i (by omega) h1) (hne j (by omega) h2) h3 h4
  · rw [he i (by omega)] at h3
    exact h.2 i (by omega) A c (hne i (by omega) h1) h3

set_option maxRecDepth 100000 in
set_option maxHeartbeats 4000000 in
theorem markIntSS_any (A : Option Addr) (c : Nat) (rs : List (List Int)) (k : Int) (base B : Nat) (w : World) (ho : MGrid w base B A rs) (hB : B ≤ w.heap.size) (hl : rs.length ≤ 10000000) (ht : total rs ≤ 100000000) (hk0 : 0 ≤ k) (hk1 : k ≤ 100000000) :
    Calls Try.prog 37 #[.slice A rs.length c, .int .i64 k] w fun e w' => e = .returned (.int .i64 (k + total rs)) ∧ MGrid w' base B A (markR k rs) ∧ WroteIn base B w w' := by
  obtain ⟨hs, hh, hg, hap⟩ := ho
  have HAP := Lib.hid hap
  have hst : GridAt w (base + 1) B hs (halfR k rs 0) := by simpa [halfR] using hg
  have HST := Lib.hid hst
  have HH := Lib.hid hh
  have hhl := hg.1
  have HHL := Lib.hid hhl
  clear hap hst hg hh hhl
  go_enter Try.func37, Try.ntmps37
  go_wp2
  go_loopw [1, 5] (fun m i wr => ∃ j : Nat, j ≤ rs.length ∧ i = .int .i64 j ∧ m = .int .i64 (k + (total (rs.take j) : Int)) ∧ GridAt wr (base + 1) B hs (halfR k rs j) ∧ Own wr (base + 1) B A hs ∧ WroteIn base B w wr) (fun _ i _ => rs.length - (intOf i).toNat)
  case atStart => exact ⟨0, by omega, rfl, by simp [total], HST.out, HH.out, WroteIn.refl _ _ _⟩
  case round =>
    obtain ⟨j, hj, rfl, rfl, hgr, hhr, hw⟩ := hrel
    clear HST HH
    have hsz := hw.size
    have hBr : B ≤ wr.heap.size := by omega
    by_cases hlt : j < rs.length
    · have hlh : (halfR k rs j).length = rs.length := halfR_length k rs j (by omega)
      obtain ⟨R, cr, h1, h2, h3⟩ := hgr.2 j (by omega)
      have hrow : (halfR k rs j)[j]'(by omega) = rs[j] := by rw [halfR_get k rs j j (by omega) hlt, if_neg (by omega)]
      rw [hrow] at h1 h2 h3
      obtain ⟨b, o, rfl, hb, hc⟩ := hhr.open (by have := HHL.out; omega)
      have hcell := hc j _ h1
      have htk := total_take hlt
      have htl := total_take_le rs j
      have hrl := row_le_total hlt
      have HG := Lib.hid hgr
      have HHR := Lib.hid hhr
      have HW := Lib.hid hw
      have H1 := Lib.hid h1
      have HTK := Lib.hid htk
      -- the marks of this row
      have hmk : Calls Try.prog 38 #[.slice R rs[j].length cr, .int .i64 (k + (total (rs.take j) : Int))] wr fun e w' => e = .returned (.int .i64 (k + (total (rs.take j) : Int) + rs[j].length)) ∧ GridAt w' (base + 1) B hs (halfR k rs (j + 1)) ∧ Own w' (base + 1) B (some ⟨b, o, none⟩) hs ∧ WroteIn base B w w' := by
        by_cases hne : rs[j] = []
        · refine (markIntS_at R cr rs[j] _ 0 0 wr (.inl (by simp [hne])) (by omega) (by omega) (by omega)).mono ?_
          rintro e w' ⟨rfl, hm, hwr⟩
          have hin : WroteIn 0 0 wr w' := hwr.wide (Nat.le_refl _) (Nat.le_refl _)
          refine ⟨rfl, ⟨by rw [HG.out.1, hlh, halfR_length k rs (j + 1) (by omega)], fun i hi => ?_⟩, HHR.out.keptIn hBr hin (fun _ _ _ _ _ _ => .inr (by omega)), HW.out.trans ⟨hin.1, hin.2.1, hin.2.2.1, hin.2.2.2.1, fun i hi _ => hin.2.2.2.2 i hi (.inr (by omega))⟩⟩
          have hi' : i < rs.length := by rwa [halfR_length k rs (j + 1) (by omega)] at hi
          obtain ⟨R2, c2, g1, g2, g3⟩ := HG.out.2 i (by omega)
          have heq : (halfR k rs (j + 1))[i]'hi = (halfR k rs j)[i]'(by omega) := by
            rw [halfR_get k rs (j + 1) i (by omega) hi', halfR_get k rs j i (by omega) hi']
            by_cases h : i < j
            · rw [if_pos h, if_pos (by omega)]
            · by_cases h2 : i = j
              · subst h2; rw [if_pos (by omega), if_neg h, hne]; rfl
              · rw [if_neg h, if_neg (by omega)]
          rw [heq]
          exact ⟨R2, c2, g1, g2, g3.keptIn hBr hin (fun _ _ _ _ _ _ => .inr (by omega))⟩
        · obtain ⟨bR, oR, rfl, hbR0, hbR, _, _⟩ := h3.open' (by omega) (by simp; exact List.length_pos_iff.2 hne)
          refine (markIntS_at _ cr rs[j] _ bR (bR + 1) wr h3.tight (by omega) (by omega) (by omega)).mono ?_
          rintro e w' ⟨rfl, hm, hwr⟩
          have hin : WroteIn bR (bR + 1) wr w' := hwr.wide (Nat.le_refl _) (Nat.le_refl _)
          refine ⟨rfl, ⟨by rw [HG.out.1, hlh, halfR_length k rs (j + 1) (by omega)], fun i hi => ?_⟩, ?_, HW.out.trans (hwr.wide (by omega) (by omega))⟩
          · have hi' : i < rs.length := by rwa [halfR_length k rs (j + 1) (by omega)] at hi
            by_cases hij : i = j
            · subst hij
              rw [halfR_get k rs (i + 1) i (by omega) hi', if_pos (by omega)]
              refine ⟨_, cr, by rw [upFrom_length]; exact H1.out, by rw [upFrom_length]; exact h2, hm.loose (by omega) (by omega)⟩
            · obtain ⟨R2, c2, g1, g2, g3⟩ := HG.out.2 i (by omega)
              have heq : (halfR k rs (j + 1))[i]'hi = (halfR k rs j)[i]'(by omega) := by
                rw [halfR_get k rs (j + 1) i (by omega) hi', halfR_get k rs j i (by omega) hi']
                by_cases h : i < j
                · rw [if_pos h, if_pos (by omega)]
                · rw [if_neg h, if_neg (by omega)]
              rw [heq]
              refine ⟨R2, c2, g1, g2, g3.keptIn hBr hin (fun hx b' o' hR _ _ => ?_)⟩
              have hap2 := HAP.out.1 i j hi' hlt R2 (some ⟨bR, oR, none⟩) c2 cr hij (fun h0 => hx (by
                have := halfR_len k rs j i (by omega) hi'
                rw [h0] at this
                rw [List.map_eq_nil_iff]; exact List.eq_nil_of_length_eq_zero this)) hne (by rw [← halfR_len k rs j i (by omega) hi']; exact g1) H1.out
              rw [hR] at hap2
              simp at hap2
              omega
          · refine HHR.out.keptIn hBr hin (fun _ b' o' hR _ _ => ?_)
            have := HAP.out.2 j hlt _ _ hne H1.out
            simp at this hR
            omega
      have HMK := Lib.hid hmk
      clear hc h1 h2 h3 hgr hhr hw hrow htk hmk hlh
      go_wp2_with fail
      refine HMK.out.mono ?_
      rintro e w2 ⟨rfl, hg2, hh2, hw2⟩
      have H2 := Lib.hid (And.intro hg2 (And.intro hh2 hw2))
      clear hg2 hh2 hw2
      go_wp2
      go_roundw
      case rel => exact ⟨j + 1, by omega, by go_num, by rw [HTK.out]; go_num, H2.out.1, H2.out.2.1, H2.out.2.2⟩
      case measure => simp [intOf]; omega
    · have hj' : j = rs.length := by omega
      subst hj'
      have hfin : halfR k rs rs.length = markR k rs := by
        unfold halfR; rw [List.take_of_length_le (by rw [markR_length]; exact Nat.le_refl _), List.drop_length, List.append_nil]
      rw [hfin] at hgr
      rw [List.take_length]
      clear hfin
      go_wp2
      go_ret
      refine ⟨rfl, ⟨hs, hhr, hgr, apart_marks HAP.out (markR_length k rs) (fun i hi => by rw [markR_get k rs i hi, upFrom_length])⟩, hw⟩

set_option maxRecDepth 100000 in
set_option maxHeartbeats 2000000 in
theorem heldIntSS_any (A : Option Addr) (c : Nat) (rs : List (List Int)) (k : Int) (w : World) (ho : Grid w 0 w.heap.size A (markR k rs)) (hl : rs.length ≤ 10000000) (ht : total rs ≤ 100000000) (hk0 : 0 ≤ k) (hk1 : k ≤ 100000000) :
    Calls Try.prog 40 #[.slice A rs.length c, .int .i64 k] w fun e w' => e = .returned (.int .i64 (k + total rs)) ∧ w = w' := by
  go_enter Try.func40, Try.ntmps40
  go_wp2
  go_loop [1, 5] (fun m i => ∃ j : Nat, j ≤ rs.length ∧ i = .int .i64 j ∧ m = .int .i64 (k + (total (rs.take j) : Int))) (fun _ i => rs.length - (intOf i).toNat)
  case atStart => exact ⟨0, by omega, rfl, by simp [total]⟩
  case round =>
    obtain ⟨j, hj, rfl, rfl⟩ := hrel
    by_cases hlt : j < rs.length
    · obtain ⟨b, o, R, cr, rfl, hb, hcell, hcr, hrow⟩ := ho.open (show j < (markR k rs).length by rw [markR_length]; exact hlt)
      have hmg := markR_get k rs j hlt
      rw [hmg, upFrom_length] at hcell
      rw [hmg] at hrow
      have htk := total_take hlt
      have htl := total_take_le rs j
      have hrl := row_le_total hlt
      have hh := heldIntS_any R cr rs[j].length (k + (total (rs.take j) : Int)) w hrow (by omega) (by omega) (by omega)
      have HHD := Lib.hid hh
      have HTK := Lib.hid htk
      clear hmg hrow hcr hh htk ho
      go_wp2_with fail
      refine HHD.out.mono ?_
      rintro e w' ⟨rfl, rfl⟩
      go_wp2
      go_round
      case rel => exact ⟨j + 1, by omega, by go_num, by rw [HTK.out]; go_num⟩
      case measure => simp [intOf]; omega
    · have hj' : j = rs.length := by omega
      subst hj'
      rw [List.take_length]
      go_wp2
      go_ret
      exact ⟨rfl, rfl⟩
end Go.Proofs.Ytonnffilcmlodaa
