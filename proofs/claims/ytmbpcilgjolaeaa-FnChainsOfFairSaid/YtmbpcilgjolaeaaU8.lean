/- HubCost on both sides. No condition. -/
import Derived.Test.YtmbpcilgjolaeaaU6
import Derived.StillTailTactics
namespace Go.Proofs.Ytmbpcilgjolaeaa
open Go.RowKit

def hubD (D : Nat → Nat → Int) (h i k : Nat) : Int := if i = k then 0 else D i h + D h k
def hubB (rs : List (List Int)) (h : Int) : Bool := ratesB rs && inR h 0 ((rs.length : Int) - 1)
def hubV (rs : List (List Int)) (h : Int) : List (List Int) := if hubB rs h then mat rs.length (hubD (cellOf rs) h.toNat) else []
theorem hubV_no {rs : List (List Int)} {h : Int} (e : hubB rs h = false) : hubV rs h = [] := by rw [hubV, e]; rfl
theorem hubB_parts {rs : List (List Int)} {h : Int} (e : hubB rs h = true) : rs = mat rs.length (cellOf rs) ∧ RM rs.length (cellOf rs) ∧ ∃ m : Nat, h = (m : Int) ∧ m < rs.length ∧ hubV rs h = mat rs.length (hubD (cellOf rs) m) := by
  have e0 := e
  simp only [hubB, Bool.and_eq_true] at e
  obtain ⟨h1, h2⟩ := rates_parts e.1
  have h3 := inR_iff.1 e.2
  refine ⟨h1, h2, h.toNat, by omega, by omega, by rw [hubV, e0]; rfl⟩
theorem hubV_bd (rs : List (List Int)) (h : Int) : (hubV rs h).length ≤ 5 ∧ ∀ r ∈ hubV rs h, r.length ≤ 5 := by
  cases e : hubB rs h with
  | false => rw [hubV_no e]; simp
  | true =>
    obtain ⟨_, h2, m, _, _, h3⟩ := hubB_parts e
    rw [h3]
    have := h2.n5
    exact ⟨by rw [mat_len]; exact this, fun r hr => by rw [mat_rows hr]; exact this⟩

/-- A square of numbers of which the rows below a are laid. -/
def SqPart (w : World) (base g a n : Nat) (b : Nat → Nat) (D : Nat → Nat → Int) : Prop :=
  (base ≤ g ∧ g < w.heap.size ∧ ∀ j, w.frozen? ⟨g, j, none⟩ = false) ∧
  (∀ i, i < n → w.cell? ⟨g, i, none⟩ = some (if i < a then .slice (some ⟨b i, 0, none⟩) n n else .slice none 0 0)) ∧
  (∀ i, i < a → base ≤ b i ∧ b i < w.heap.size ∧ b i ≠ g ∧ (∀ k, k < n → w.cell? ⟨b i, k, none⟩ = some (.int .i64 (D i k))) ∧ ∀ j, w.frozen? ⟨b i, j, none⟩ = false) ∧
  ∀ i j, i < a → j < a → i ≠ j → b i ≠ b j
section
variable {w w2 : World} {base g a n q : Nat} {b : Nat → Nat} {D E : Nat → Nat → Int}
theorem SqPart.start (h : w.heap[g]? = some (.cells (List.replicate n (Value.slice none 0 0)).toArray 27 (0, 0))) (hb : base ≤ g) (b : Nat → Nat) (D : Nat → Nat → Int) : SqPart w base g 0 n b D :=
  ⟨⟨hb, lt_of_heap h, fun j => frozen_of_row _ _ _ _ _ h⟩, fun i hi => by rw [cell_of_row w _ _ _ _ _ h]; simp [hi], fun i hi => by omega, fun i j hi => by omega⟩
theorem SqPart.keep (h : SqPart w base g a n b D) (hb : Below w.heap.size w w2) : SqPart w2 base g a n b D := by
  obtain ⟨⟨h1, h2, h3⟩, h4, h5, h6⟩ := h
  have hz := hb.size
  refine ⟨⟨h1, by omega, fun j => by rw [hb.frozen (p := ⟨g, j, none⟩) h2]; exact h3 j⟩, fun i hi => by rw [hb.cell (p := ⟨g, i, none⟩) h2]; exact h4 i hi, fun i hi => ?_, h6⟩
  obtain ⟨g1, g2, g3, g4, g5⟩ := h5 i hi
  exact ⟨g1, by omega, g3, fun k hk => by rw [hb.cell (p := ⟨b i, k, none⟩) g2]; exact g4 k hk, fun j => by rw [hb.frozen (p := ⟨b i, j, none⟩) g2]; exact g5 j⟩
theorem SqPart.congr (h : SqPart w base g a n b D) (he : ∀ i k, i < a → k < n → E i k = D i k) : SqPart w base g a n b E := by
  obtain ⟨h1, h4, h5, h6⟩ := h
  refine ⟨h1, h4, fun i hi => ?_, h6⟩
  obtain ⟨g1, g2, g3, g4, g5⟩ := h5 i hi
  exact ⟨g1, g2, g3, fun k hk => by rw [he i k hi hk]; exact g4 k hk, g5⟩
theorem SqPart.done (h : SqPart w base g n n b D) : MatAt w base g 0 n b (fun _ => 0) (fun _ => n) D := by
  obtain ⟨⟨h1, h2, h3⟩, h4, h5, h6⟩ := h
  refine ⟨⟨h1, h2, h3⟩, fun i hi => ?_, h6⟩
  obtain ⟨g1, g2, g3, g4, g5⟩ := h5 i hi
  have h7 := h4 i hi
  rw [if_pos hi] at h7
  exact ⟨by rw [Nat.zero_add]; exact h7, g1, g2, g3, Nat.le_refl _, fun k hk => by rw [Nat.zero_add]; exact g4 k hk, g5⟩
theorem SqPart.put (h : SqPart w base g a n b D) {i k : Nat} {v : Int} (hi : i < a) (hk : k < n) : SqPart (w.setCell ⟨b i, k, none⟩ (.int .i64 v)) base g a n b (upd D i k v) := by
  obtain ⟨⟨h1, h2, h3⟩, h4, h5, h6⟩ := h
  have hsz : (w.setCell ⟨b i, k, none⟩ (.int .i64 v)).heap.size = w.heap.size := by simp [World.setCell]
  obtain ⟨a1, a2, a3, a4, a5⟩ := h5 i hi
  refine ⟨⟨h1, by omega, fun j => by rw [World.frozen?_setCell]; exact h3 j⟩, fun i' hi' => ?_, fun i' hi' => ?_, h6⟩
  · rw [World.cell?_setCell_other w _ _ _ (by intro e; injection e with e1; first | exact a3 e1 | exact a3 e1.symm)]
    exact h4 i' hi'
  · obtain ⟨g1, g2, g3, g4, g5⟩ := h5 i' hi'
    refine ⟨g1, by omega, g3, fun k' hk' => ?_, fun j => by rw [World.frozen?_setCell]; exact g5 j⟩
    unfold upd
    by_cases e : i' = i ∧ k' = k
    · obtain ⟨rfl, rfl⟩ := e
      rw [if_pos ⟨rfl, rfl⟩, World.cell?_setCell_same w _ _ (a4 k' hk')]
    · rw [if_neg e, World.cell?_setCell_other w _ _ _ ?_]
      · exact g4 k' hk'
      · intro e2
        injection e2 with e3 e4
        by_cases e5 : i' = i
        · subst e5; exact e ⟨rfl, by omega⟩
        · exact h6 i' i hi' hi e5 (by first | exact e3 | exact e3.symm)
theorem SqPart.row (h : SqPart w base g a n b D) (ha : a < n) (hb : Below w.heap.size w w2) (hbase : base ≤ w.heap.size) (hq : w2.heap[q]? = some (.cells (List.replicate n (Value.int .i64 0)).toArray 3 (0, 0))) (hqz : w.heap.size ≤ q) (hE : ∀ i k, i < a → k < n → E i k = D i k) (hE0 : ∀ k, k < n → E a k = 0) :
    w2.cell? ⟨g, a, none⟩ = some (.slice none 0 0) ∧ w2.frozen? ⟨g, a, none⟩ = false ∧ q ≠ g ∧
    SqPart (w2.setCell ⟨g, a, none⟩ (.slice (some ⟨q, 0, none⟩) n n)) base g (a + 1) n (fun i => if i = a then q else b i) E := by
  have h0 := h.keep hb
  obtain ⟨⟨_, hgz, _⟩, _, hold, _⟩ := h
  have hne : ∀ i, i < a → b i ≠ q := fun i hi => by have := (hold i hi).2.1; omega
  obtain ⟨⟨h1, h2, h3⟩, h4, h5, h6⟩ := h0
  have hga := h4 a ha
  rw [if_neg (Nat.lt_irrefl a)] at hga
  have hqg : q ≠ g := by omega
  have hq2 : q < w2.heap.size := lt_of_heap hq
  have hqc : ∀ k, k < n → w2.cell? ⟨q, k, none⟩ = some (.int .i64 0) := fun k hk => by rw [cell_of_row w2 _ _ _ _ _ hq]; simp [hk]
  have hqf : ∀ j, w2.frozen? ⟨q, j, none⟩ = false := fun j => frozen_of_row _ _ _ _ _ hq
  have hs1 : (w2.setCell ⟨g, a, none⟩ (.slice (some ⟨q, 0, none⟩) n n)).heap.size = w2.heap.size := by simp [World.setCell]
  have oth : ∀ (p : Nat) (k : Nat), p ≠ g → (w2.setCell ⟨g, a, none⟩ (.slice (some ⟨q, 0, none⟩) n n)).cell? ⟨p, k, none⟩ = w2.cell? ⟨p, k, none⟩ := fun p k hp => World.cell?_setCell_other w2 _ _ _ (by intro e; injection e with e1; first | exact hp e1 | exact hp e1.symm)
  refine ⟨hga, h3 a, hqg, ⟨h1, by omega, fun j => by rw [World.frozen?_setCell]; exact h3 j⟩, fun i hi => ?_, fun i hi => ?_, fun i j hi hj hij => ?_⟩
  · by_cases e : i = a
    · subst e
      rw [if_pos (Nat.lt_succ_self i), World.cell?_setCell_same w2 _ _ hga]
      simp
    · rw [World.cell?_setCell_other w2 _ _ _ (by intro e2; injection e2 with e3 e4; omega), h4 i hi]
      by_cases e2 : i < a
      · rw [if_pos e2, if_pos (by omega)]; simp only [if_neg e]
      · rw [if_neg e2, if_neg (by omega)]
  · by_cases e : i = a
    · subst e
      simp only [if_true]
      refine ⟨by omega, by omega, hqg, fun k hk => ?_, fun j => by rw [World.frozen?_setCell]; exact hqf j⟩
      rw [oth q k hqg, hE0 k hk]; exact hqc k hk
    · obtain ⟨g1, g2, g3, g4, g5⟩ := h5 i (by omega)
      simp only [if_neg e]
      refine ⟨g1, by omega, g3, fun k hk => ?_, fun j => by rw [World.frozen?_setCell]; exact g5 j⟩
      rw [oth _ _ g3, hE i k (by omega) hk]
      exact g4 k hk
  · by_cases e : i = a
    · have e2 : ¬ j = a := by omega
      simp only [if_pos e, if_neg e2]
      exact (hne j (by omega)).symm
    · by_cases e2 : j = a
      · simp only [if_neg e, if_pos e2]
        exact hne i (by omega)
      · simp only [if_neg e, if_neg e2]
        exact h6 i j (by omega) (by omega) hij
end
set_option maxRecDepth 100000 in
theorem isZone_any (x n : Int) (w : World) : Calls Try.prog 52 #[.int .i64 x, .int .i64 n] w fun e w' => e = .returned (.bool (inR x 0 (n - 1))) ∧ w = w' := by
  by_cases h0 : 0 ≤ x
  · by_cases h1 : x < n
    · have HF := Lib.hid (show inR x 0 (n - 1) = true from inR_iff.2 ⟨h0, by omega⟩)
      go_enter Try.func52, Try.ntmps52
      go_wp2
      go_ret
      exact ⟨ret_bool HF.out.symm, rfl⟩
    · have HF := Lib.hid (show inR x 0 (n - 1) = false by simp [inR]; omega)
      have h2 : decide (x < n) = false := decide_eq_false h1
      clear h1
      go_enter Try.func52, Try.ntmps52
      go_wp2
      go_ret
      exact ⟨ret_bool HF.out.symm, rfl⟩
  · have HF := Lib.hid (show inR x 0 (n - 1) = false by simp [inR]; omega)
    have h2 : x < 0 := by omega
    clear h0
    go_enter Try.func52, Try.ntmps52
    go_wp2
    go_ret
    exact ⟨ret_bool HF.out.symm, rfl⟩

set_option maxRecDepth 100000 in
set_option maxHeartbeats 8000000 in
theorem specHub_mat (A : Option Addr) (c n hub : Nat) (D : Nat → Nat → Int) (w : World) (hr : Grid w 0 w.heap.size A (mat n D)) (hm : RM n D) (hh : hub < n) :
    Calls Try.prog 31 #[.slice A n c, .int .i64 (hub : Int)] w (gRes w (mat n (hubD D hub))) := by
  obtain ⟨i0, hi0, hz0, hz1, hz2⟩ := info_parts Try.infoR
  obtain ⟨i3, hi3, hy0, hy1, hy2⟩ := info_parts Try.info3
  have hn1 := hm.n1
  have hn5 := hm.n5
  have hvr := validRates_low A c (mat n D) w hr (by rw [mat_len]; omega) (fun r hr => by rw [mat_rows hr]; omega)
  rw [mat_len, ratesB_mat hm] at hvr
  have HVR := Lib.hid hvr
  have HM := Lib.hid hm
  obtain ⟨bA, oA, p, q, cc, rfl, hsq⟩ := hr.sq (by omega)
  have HSQ := Lib.hid hsq
  have hir := inRange_any (hub : Int) 0 ((n : Int) - 1)
  rw [show inR (hub : Int) 0 ((n : Int) - 1) = true from inR_iff.2 (by omega)] at hir
  have HIR := Lib.hid hir
  clear hvr hm hr hsq hir
  go_enter Try.func31, Try.ntmps31
  go_wp2_with (first | (go_at_call 44; ((with_reducible refine HVR.out.mono ?_); rintro e w' ⟨rfl, rfl⟩)) | (go_at_call 50; ((with_reducible refine (HIR.out _).mono ?_); rintro e w' ⟨rfl, rfl⟩)))
  go_loopw [5, 6] (fun v i wr => ∃ (s : Nat) (H : Option Addr) (cH : Nat) (hs : List Value), s ≤ n ∧ i = .int .i64 s ∧ v = .slice H s cH ∧ Hid (Built wr w.heap.size H cH hs (rowsTo n s (hubD D hub))) ∧ Below w.heap.size w wr) (fun _ i _ => n - (intOf i).toNat)
  case atStart => exact ⟨0, _, 0, [], by omega, rfl, rfl, Lib.hid (Built.start w _ (Nat.le_refl _)), (Below.refl _ _).alloc (Nat.le_refl _) _⟩
  case round =>
    obtain ⟨s, H, cH, hs, hsN, rfl, rfl, HT, hbr⟩ := hrel
    have HBR := Lib.hid hbr
    have hbz := hbr.size
    clear hbr
    by_cases hlt : s < n
    · have HFI := Lib.hid (show (wr.alloc (.cells #[] 3)).ownsRow wr.heap.size 3 1 (.slice (some ⟨wr.heap.size, 0, none⟩) 0 0) 0 [] from World.ownsRow_lit wr #[] 0 (Nat.le_refl _) (by simp [maxLen]) rfl)
      obtain ⟨wA, hwA⟩ : ∃ wA : World, wA = wr := ⟨_, rfl⟩
      subst hwA
      go_wp2_with fail
      go_loopw [7, 8] (fun v i wr => ∃ (k : Nat) (R : Option Addr) (cR : Nat), k ≤ n ∧ i = .int .i64 k ∧ v = .slice R k cR ∧ Hid (wr.ownsRow wA.heap.size 3 1 (.slice R k cR) k ((tab k (hubD D hub s)).map (Value.int .i64))) ∧ Below wA.heap.size wA wr) (fun _ i _ => n - (intOf i).toNat)
      case atStart => exact ⟨0, _, 0, by omega, rfl, rfl, Lib.hid HFI.out, (Below.refl _ _).alloc (Nat.le_refl _) _⟩
      case round =>
        obtain ⟨k, R, cR, hk, rfl, rfl, HR, hbr2⟩ := hrel
        have HBR2 := Lib.hid hbr2
        have hbz2 := hbr2.size
        clear hbr2 HFI
        by_cases hlt2 : k < n
        · have hs2 : Sq wr w.heap.size bA oA n p q cc D := HSQ.out.below (HBR.out.trans (HBR2.out.mono hbz))
          obtain ⟨_, hall⟩ := hs2
          obtain ⟨x1, _, x3⟩ := hall s hlt
          obtain ⟨y1, _, y3⟩ := hall hub hh
          have x5 := x3 hub hh
          have y4 := y3 k hlt2
          have d3 := HM.out.lo s hub hlt hh
          have d4 := HM.out.hi s hub hlt hh
          have d5 := HM.out.lo hub k hh hlt2
          have d6 := HM.out.hi hub k hh hlt2
          have HV := Lib.hid (show hubD D hub s k = if s = k then 0 else D s hub + D hub k from rfl)
          obtain ⟨u, hu⟩ : ∃ u, D s hub = u := ⟨_, rfl⟩
          obtain ⟨t, htt⟩ : ∃ t, D hub k = t := ⟨_, rfl⟩
          rw [hu] at x5 d3 d4 HV
          rw [htt] at y4 d5 d6 HV
          have i1 : (0 : Int) ≤ s := by omega
          have i2 : (s : Int) < n := by omega
          have i3' : (0 : Int) ≤ hub := by omega
          have i4 : (hub : Int) < n := by omega
          have i5 : (0 : Int) ≤ k := by omega
          have i6 : (k : Int) < n := by omega
          have hw : IntKind.i64.wrap (u + t) = u + t := IntWalk.i64_in _ (by omega)
          clear hall x3 y3 hu htt
          go_wp2_with fail
          go_quiet (fail)
          rename_i nq
          obtain ⟨W1, hW1⟩ : ∃ W1, wr.drewN nq = W1 := ⟨_, rfl⟩
          rw [hW1]
          have hb1 : Below wr.heap.size wr W1 := by rw [← hW1]; exact drewBelow _ _
          have hown : W1.ownsRow wA.heap.size 3 1 (.slice R k cR) k ((tab k (hubD D hub s)).map (Value.int .i64)) := HR.out.kept (row := none) (grown_of_below hb1) (by by_cases h : (Value.slice R k cR).ownBlock = none; exact .inl h; exact .inr h)
          have hb2 : wA.heap.size ≤ W1.heap.size := Nat.le_trans hbz2 hb1.size
          have HB2 := Lib.hid (HBR2.out.trans (hb1.mono hbz2))
          clear hW1 hb1 hw x1 x5 y1 y4
          rcases Decidable.em (s = k) with hsk | hsk
          case' inl =>
            have hske : ((s : Int) == (k : Int)) = true := by rw [hsk]; simp
            have HU := Lib.hid (show hubD D hub s k = 0 by rw [HV.out, if_pos hsk])
            clear hsk
            go_wp2_with (first | (at_builtin; refine wpList_push rfl (.tmp 53) (.tmp 55) 27 rfl i3 (.int .i64 0) 8 Try.underlying27 hi3 hy0 hy1 hy2 rfl (by decide) _ _ rfl hown [.int .i64 (0)] rfl rfl (by simp [Value.oneCell']) (by omega) (by omega) hb2 ?_))
          case' inr =>
            have hske : ((s : Int) == (k : Int)) = false := by simp; omega
            have HU := Lib.hid (show hubD D hub s k = u + t by rw [HV.out, if_neg hsk])
            clear hsk
            go_wp2_with (first | (at_builtin; refine wpList_push rfl (.tmp 53) (.tmp 55) 27 rfl i3 (.int .i64 0) 8 Try.underlying27 hi3 hy0 hy1 hy2 rfl (by decide) _ _ rfl hown [.int .i64 (u + t)] rfl rfl (by simp [Value.oneCell']) (by omega) (by omega) hb2 ?_))
          all_goals
            intro R' cR' w6 hown6 hg6
            have HW := Lib.hid (And.intro hown6 (HB2.out.grown hg6 hb2 (fun i hi => (hown.lt _ hi).1)))
            clear hown hown6 hg6 hske
            go_wp2_with fail
            go_roundw
            case rel => exact ⟨k + 1, R', cR', by omega, by go_num, rfl, Lib.hid (by rw [tab_more, HU.out, List.map_append]; exact HW.out.1), HW.out.2⟩
            case measure => simp [intOf]; omega
        · have hkk : k = n := by omega
          subst hkk
          have hBk := HT.out.keep HBR2.out
          have hownC : wr.ownsRow w.heap.size 27 1 (.slice H s cH) s hs := by have := hBk.1; rwa [rowsTo_len] at this
          have HCAP := Lib.hid (own_cap HR.out)
          have hbzB : w.heap.size ≤ wr.heap.size := Nat.le_trans hbz hbz2
          clear hBk
          go_wp2_with (at_builtin; refine wpList_push_at rfl (.tmp 57) (.tmp 59) 22 rfl i0 (.slice none 0 0) 24 Try.underlying22 hi0 hz0 hz1 hz2 rfl (by decide) _ _ rfl hownC [.slice R k cR] rfl rfl (by simp [Value.oneCell']) (by omega) (by omega) (by omega) ?_)
          intro H' cH' wd hownD hgD hat
          have hrl : (tab k (hubD D hub s)).length = k := tab_length _ _
          have hTs := rowsTo_len k s (hubD D hub)
          have hbuilt := Built.push (R := R) (cR := cR) (r := tab k (hubD D hub s)) HT.out hbz HBR2.out (own_row_cells HR.out) (by rw [hrl]; exact HCAP.out) (by rw [hTs, hrl]; exact hownD) (by rw [hTs]; exact hgD) (by rcases hat with h | h; exact .inl h; exact .inr (by simpa using h))
          rw [← rowsTo_more] at hbuilt
          have hbwd : Below w.heap.size w wd := (HBR.out.trans (HBR2.out.mono hbz)).grown hgD hbzB (fun i hi => (hownC.lt _ hi).1)
          have HEND := Lib.hid (And.intro hbuilt hbwd)
          clear hrl hTs hbuilt hbwd hownD hgD hat hownC
          go_wp2_with fail
          go_roundw
          case rel => exact ⟨s + 1, H', cH', _, by omega, by go_num, rfl, Lib.hid HEND.out.1, HEND.out.2⟩
          case measure => simp [intOf]; omega
    · have hsn : n = s := by omega
      subst hsn
      have hcap := HT.out.cap
      rw [rowsTo_len] at hcap
      have HMG := Lib.hid HT.out.mgrid
      have HCAP := Lib.hid hcap
      clear hcap HT
      go_wp2_with fail
      go_ret
      exact ⟨H, cH, by rw [mat_len]; rfl, by rw [mat_len]; exact HCAP.out, HMG.out, HBR.out⟩
end Go.Proofs.Ytmbpcilgjolaeaa
