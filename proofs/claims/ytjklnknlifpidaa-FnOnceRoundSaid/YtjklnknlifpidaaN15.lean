/- A square that is laid row by row; impl.apartIn. No condition. -/
import Derived.Test.YtjklnknlifpidaaN13
import Derived.Test.YtjklnknlifpidaaN14
import Derived.Test.YtjklnknlifpidaaU5
import Derived.StillTailTactics
namespace Go.Proofs.Ytjklnknlifpidaa
open Go.RowKit

/-- A square of numbers of which the rows below a are laid. -/
def MatPart (w : World) (base g a n : Nat) (b : Nat → Nat) (D : Nat → Nat → Int) : Prop :=
  (base ≤ g ∧ g < w.heap.size ∧ ∀ j, w.frozen? ⟨g, j, none⟩ = false) ∧
  (∀ i, i < n → w.cell? ⟨g, i, none⟩ = some (if i < a then .slice (some ⟨b i, 0, none⟩) n n else .slice none 0 0)) ∧
  (∀ i, i < a → base ≤ b i ∧ b i < w.heap.size ∧ b i ≠ g ∧ (∀ k, k < n → w.cell? ⟨b i, k, none⟩ = some (.int .i64 (D i k))) ∧ ∀ j, w.frozen? ⟨b i, j, none⟩ = false) ∧
  ∀ i j, i < a → j < a → i ≠ j → b i ≠ b j
section
variable {w w2 : World} {base g a n q : Nat} {b : Nat → Nat} {D : Nat → Nat → Int}
theorem MatPart.start (h : w.heap[g]? = some (.cells (List.replicate n (Value.slice none 0 0)).toArray 24 (0, 0))) (hb : base ≤ g) (b : Nat → Nat) (D : Nat → Nat → Int) : MatPart w base g 0 n b D :=
  ⟨⟨hb, lt_of_heap h, fun j => frozen_of_row _ _ _ _ _ h⟩, fun i hi => by rw [cell_of_row w _ _ _ _ _ h]; simp [hi], fun i hi => by omega, fun i j hi => by omega⟩
theorem MatPart.keep (h : MatPart w base g a n b D) (hb : Below w.heap.size w w2) : MatPart w2 base g a n b D := by
  obtain ⟨⟨h1, h2, h3⟩, h4, h5, h6⟩ := h
  have hz := hb.size
  refine ⟨⟨h1, by omega, fun j => by rw [hb.frozen (p := ⟨g, j, none⟩) h2]; exact h3 j⟩, fun i hi => by rw [hb.cell (p := ⟨g, i, none⟩) h2]; exact h4 i hi, fun i hi => ?_, h6⟩
  obtain ⟨g1, g2, g3, g4, g5⟩ := h5 i hi
  exact ⟨g1, by omega, g3, fun k hk => by rw [hb.cell (p := ⟨b i, k, none⟩) g2]; exact g4 k hk, fun j => by rw [hb.frozen (p := ⟨b i, j, none⟩) g2]; exact g5 j⟩
theorem MatPart.done (h : MatPart w base g n n b D) : MatAt w base g 0 n b (fun _ => 0) (fun _ => n) D := by
  obtain ⟨⟨h1, h2, h3⟩, h4, h5, h6⟩ := h
  refine ⟨⟨h1, h2, h3⟩, fun i hi => ?_, h6⟩
  obtain ⟨g1, g2, g3, g4, g5⟩ := h5 i hi
  have h7 := h4 i hi
  rw [if_pos hi] at h7
  exact ⟨by rw [Nat.zero_add]; exact h7, g1, g2, g3, Nat.le_refl _, fun k hk => by rw [Nat.zero_add]; exact g4 k hk, g5⟩
theorem MatPart.row (h : MatPart w base g a n b D) (ha : a < n) (hb : Below w.heap.size w w2) (hbase : base ≤ w.heap.size) (hq : w2.heap[q]? = some (.cells (List.replicate n (Value.int .i64 281)).toArray 3 (0, 0))) (hqz : w.heap.size ≤ q) (hD : ∀ k, k < n → D a k = if a = k then 0 else 281) :
    w2.cell? ⟨g, a, none⟩ = some (.slice none 0 0) ∧ w2.frozen? ⟨g, a, none⟩ = false ∧
    (w2.setCell ⟨g, a, none⟩ (.slice (some ⟨q, 0, none⟩) n n)).cell? ⟨g, a, none⟩ = some (.slice (some ⟨q, 0, none⟩) n n) ∧
    (w2.setCell ⟨g, a, none⟩ (.slice (some ⟨q, 0, none⟩) n n)).cell? ⟨q, a, none⟩ = some (.int .i64 281) ∧
    (w2.setCell ⟨g, a, none⟩ (.slice (some ⟨q, 0, none⟩) n n)).frozen? ⟨q, a, none⟩ = false ∧
    MatPart ((w2.setCell ⟨g, a, none⟩ (.slice (some ⟨q, 0, none⟩) n n)).setCell ⟨q, a, none⟩ (.int .i64 0)) base g (a + 1) n (fun i => if i = a then q else b i) D := by
  have h0 := h.keep hb
  obtain ⟨⟨_, hgz, _⟩, _, hold, _⟩ := h
  have hne : ∀ i, i < a → b i ≠ q := fun i hi => by have := (hold i hi).2.1; omega
  obtain ⟨⟨h1, h2, h3⟩, h4, h5, h6⟩ := h0
  have hga := h4 a ha
  rw [if_neg (Nat.lt_irrefl a)] at hga
  have hqg : q ≠ g := by omega
  have hq2 : q < w2.heap.size := lt_of_heap hq
  have hqc : ∀ k, k < n → w2.cell? ⟨q, k, none⟩ = some (.int .i64 281) := fun k hk => by rw [cell_of_row w2 _ _ _ _ _ hq]; simp [hk]
  have hqf : ∀ j, w2.frozen? ⟨q, j, none⟩ = false := fun j => frozen_of_row _ _ _ _ _ hq
  have hs1 : (w2.setCell ⟨g, a, none⟩ (.slice (some ⟨q, 0, none⟩) n n)).heap.size = w2.heap.size := by simp [World.setCell]
  have c1 : (w2.setCell ⟨g, a, none⟩ (.slice (some ⟨q, 0, none⟩) n n)).cell? ⟨g, a, none⟩ = some (.slice (some ⟨q, 0, none⟩) n n) := World.cell?_setCell_same w2 _ _ hga
  have oth : ∀ (p : Nat) (k : Nat), p ≠ g → (w2.setCell ⟨g, a, none⟩ (.slice (some ⟨q, 0, none⟩) n n)).cell? ⟨p, k, none⟩ = w2.cell? ⟨p, k, none⟩ := fun p k hp => World.cell?_setCell_other w2 _ _ _ (by intro e; injection e with e1; first | exact hp e1 | exact hp e1.symm)
  have c2 : ∀ k, k < n → (w2.setCell ⟨g, a, none⟩ (.slice (some ⟨q, 0, none⟩) n n)).cell? ⟨q, k, none⟩ = some (.int .i64 281) := fun k hk => by rw [oth q k hqg]; exact hqc k hk
  refine ⟨hga, h3 a, c1, c2 a ha, by rw [World.frozen?_setCell]; exact hqf a, ⟨h1, by simp [World.setCell] at hs1 ⊢; omega, fun j => by rw [World.frozen?_setCell, World.frozen?_setCell]; exact h3 j⟩, fun i hi => ?_, fun i hi => ?_, fun i j hi hj hij => ?_⟩
  · rw [World.cell?_setCell_other _ _ _ _ (by intro e; injection e with e1; first | exact hqg e1 | exact hqg e1.symm)]
    by_cases e : i = a
    · subst e
      rw [if_pos (Nat.lt_succ_self i)]
      simp only [if_true]
      exact c1
    · rw [World.cell?_setCell_other w2 _ _ _ (by intro e2; injection e2 with e3 e4; omega)]
      have := h4 i hi
      rw [this]
      by_cases e2 : i < a
      · rw [if_pos e2, if_pos (by omega)]; simp only [if_neg e]
      · rw [if_neg e2, if_neg (by omega)]
  · by_cases e : i = a
    · subst e
      simp only [if_true]
      refine ⟨by omega, by simp [World.setCell] at hs1 ⊢; omega, hqg, fun k hk => ?_, fun j => by rw [World.frozen?_setCell, World.frozen?_setCell]; exact hqf j⟩
      rw [hD k hk]
      by_cases e2 : i = k
      · subst e2
        rw [if_pos rfl, World.cell?_setCell_same _ _ _ (c2 i hk)]
      · rw [if_neg e2, World.cell?_setCell_other _ _ _ _ (by intro e3; injection e3 with e4 e5; omega)]
        exact c2 k hk
    · obtain ⟨g1, g2, g3, g4, g5⟩ := h5 i (by omega)
      simp only [if_neg e]
      have hne := hne i (by omega)
      refine ⟨g1, by simp [World.setCell] at hs1 ⊢; omega, g3, fun k hk => ?_, fun j => by rw [World.frozen?_setCell, World.frozen?_setCell]; exact g5 j⟩
      rw [World.cell?_setCell_other _ _ _ _ (by intro e3; injection e3 with e4 e5; first | exact hne e4 | exact hne e4.symm), oth _ _ g3]
      exact g4 k hk
  · by_cases e : i = a
    · have e2 : ¬ j = a := by omega
      simp only [if_pos e, if_neg e2]
      exact (hne j (by omega)).symm
    · by_cases e2 : j = a
      · simp only [if_neg e, if_pos e2]
        exact hne i (by omega)
      · simp only [if_neg e, if_neg e2]
        exact h6 i j (by omega) (by omega) hij
end

section
variable {n : Nat} {ss : List St} {E : Nat → Nat → Int}
theorem FwE.bd {m : Nat} {dn : Nat → Nat → Prop} (h : FwE n ss m dn E) : Bd n E := fun i k hi hk => by
  obtain ⟨h1, h2, _⟩ := h i k hi hk
  exact ⟨h1, h2⟩
theorem FwE.fk {m i : Nat} (h : FwE n ss m (fun a _ => a < i) E) (hm : m < n) (hi : i < n) : ∀ {k : Nat}, k ≤ n → FwE n ss m (fun a b => a < i ∨ (a = i ∧ b < k)) (fk m i E k)
  | 0, _ => h.less fun _ _ _ _ h => by omega
  | k + 1, hk => (FwE.fk h hm hi (k := k) (by omega)).put hm hi (by omega) (fun i' k' h => by omega)
theorem FwE.fi {m : Nat} (h : FwE n ss m (fun _ _ => False) E) (hm : m < n) : ∀ {i : Nat}, i ≤ n → FwE n ss m (fun a _ => a < i) (fi m n E i)
  | 0, _ => h.less fun _ _ _ _ h => by omega
  | i + 1, hi => ((FwE.fi h hm (i := i) (by omega)).fk hm (by omega) (Nat.le_refl _)).less fun _ _ _ _ h => by omega
theorem FwE.fm (h : FwE n ss 0 (fun _ _ => False) E) : ∀ {m : Nat}, m ≤ n → FwE n ss m (fun _ _ => False) (fm n E m)
  | 0, _ => h
  | m + 1, hm => ((FwE.fm h (m := m) (by omega)).fi (by omega) (Nat.le_refl _)).next fun _ _ hi _ => hi
theorem FwE.fw7 (h : FwE n ss 0 (fun _ _ => False) E) : FwE n ss n (fun _ _ => False) (fw7 n E) := h.fm (Nat.le_refl _)
end
set_option maxRecDepth 100000 in
set_option maxHeartbeats 8000000 in
theorem apartIn_any (A : Option Addr) (c base n : Nat) (bs : List Nat) (L : List SW) (w : World) (ht : Town w base A bs L) (hl : L.length ≤ 7) (hlt : ∀ s ∈ L, s.1.1 < n ∧ s.1.2.1 < n) (hlen : ∀ s ∈ L, s.1.2.2 ≤ 20) (hn1 : 1 ≤ n) (hn5 : n ≤ 5) :
    Calls Try.prog 43 #[.slice A L.length c, .int .i64 (n : Int)] w fun e w' => ∃ E, FwE n (L.map Prod.fst) n (fun _ _ => False) E ∧ gRes w (mat n E) e w' := by
  have HLT := Lib.hid hlt
  have HTL := Lib.hid (show ∀ s ∈ L.map Prod.fst, s.1 < n ∧ s.2.1 < n from fun s hs => by obtain ⟨t, ht, rfl⟩ := List.mem_map.1 hs; exact hlt t ht)
  have HLN := Lib.hid hlen
  have HT := Lib.hid ht
  obtain ⟨i0, hi0, hz0, hz1, hz2⟩ := info_parts Try.infoR
  clear hlt ht hlen
  go_enter Try.func43, Try.ntmps43
  go_wp2_with (at_make; refine wpList_make_full _ rfl (.tmp 9) (.tmp 9) _ rfl w.heap.size 24 i0 (.slice none 0 0) 1 Try.underlying22 hi0 hz0 hz1 _ _ _ _ n rfl rfl rfl rfl (by rw [hz2]; omega) (by unfold maxLen; omega) (Nat.le_refl _) ?_)
  intro w1 hown hg
  have HB1 := Lib.hid (show Below w.heap.size w w1 from (Below.refl _ _).grown hg (Nat.le_refl _) (by simp))
  have HM1 := Lib.hid (show MatPart w1 w.heap.size w.heap.size 0 n (fun _ => 0) (fun i k => if i = k then 0 else 281) from MatPart.start (by have := own_heapN hown; rw [toList_madeCells_one] at this; exact this) (Nat.le_refl _) _ _)
  clear hown hg
  go_wp2_with fail
  go_loopw [13] (fun i wr => ∃ (a : Nat) (b : Nat → Nat), a ≤ n ∧ i = .int .i64 a ∧ Hid (MatPart wr w.heap.size w.heap.size a n b (fun i k => if i = k then 0 else 281)) ∧ Below w.heap.size w wr) (fun i _ => n - (intOf i).toNat)
  case atStart => exact ⟨0, _, by omega, rfl, HM1, HB1.out⟩
  case round =>
    obtain ⟨a, b, ha, rfl, HM, hbr⟩ := hrel
    have HBR := Lib.hid hbr
    have hbz := hbr.size
    clear hbr HM1 HB1
    by_cases hla : a < n
    · have hal : Below wr.heap.size wr (wr.alloc (.cells #[.int .i64 281] 3)) := (Below.refl _ _).alloc (Nat.le_refl _) _
      have HAL := Lib.hid hal
      have HRE := Lib.hid (repeat_any wr.heap.size n 281 (wr.alloc (.cells #[.int .i64 281] 3)) (by simp) (by rw [cell_of_row _ _ _ _ _ _ (heap_alloc_new wr _)]; rfl) hn1 hn5)
      have ha0 : (0 : Int) ≤ a := by omega
      have han : (a : Int) < n := by omega
      clear hal
      go_wp2_with fail
      refine HRE.out.mono ?_
      rintro e w2 ⟨rfl, hh, hb2⟩
      have hsa : (wr.alloc (.cells #[.int .i64 281] 3)).heap.size = wr.heap.size + 1 := World.size_alloc _ _
      rw [hsa] at hh hb2 ⊢
      have hbw2 : Below wr.heap.size wr w2 := HAL.out.trans (hb2.mono (by omega))
      obtain ⟨r1, r2, r3, r4, r5, r6⟩ := HM.out.row hla hbw2 hbz hh (by omega) (fun k _ => rfl)
      have HFIN := Lib.hid (And.intro r6 (((HBR.out.trans (hbw2.mono hbz)).setCell (p := ⟨w.heap.size, a, none⟩) (Nat.le_refl _) (.slice (some ⟨wr.heap.size + 1, 0, none⟩) n n)).setCell (p := ⟨wr.heap.size + 1, a, none⟩) (by show w.heap.size ≤ wr.heap.size + 1; omega) (.int .i64 0)))
      clear hsa hh hb2 hbw2 r6
      go_wp2_with fail
      go_roundw
      case rel => exact ⟨a + 1, _, by omega, by go_num, Lib.hid HFIN.out.1, HFIN.out.2⟩
      case measure => simp [intOf]; omega
    · have haa : a = n := by omega
      subst haa
      obtain ⟨f, cc, HMA⟩ : ∃ (f cc : Nat → Nat), Hid (MatAt wr w.heap.size w.heap.size 0 a b f cc (fun i k => if i = k then 0 else 281)) := ⟨_, _, Lib.hid HM.out.done⟩
      clear HM
      go_wp2_with fail
      go_loopw [31] (fun i wr => ∃ (j : Nat) (E : Nat → Nat → Int), j ≤ L.length ∧ i = .int .i64 j ∧ Hid (SxE a (L.map Prod.fst) j E) ∧ Hid (MatAt wr w.heap.size w.heap.size 0 a b f cc E) ∧ Below w.heap.size w wr) (fun i _ => L.length - (intOf i).toNat)
      case atStart => exact ⟨0, _, by omega, rfl, Lib.hid (SxE.start _ _), HMA, HBR.out⟩
      case round =>
        clear HMA HBR hbz
        obtain ⟨j, E, hj, rfl, HS, HM, hbr⟩ := hrel
        have HBR := Lib.hid hbr
        have hbz := hbr.size
        clear hbr
        by_cases hlj : j < L.length
        · obtain ⟨b0, o, sb, rfl, hb0, p0, hsb, _, _, p1, p2, p3, _⟩ := Town.street HT.out hlj
          have hs1 := HLT.out _ (List.getElem_mem hlj)
          have hs2 := HLN.out _ (List.getElem_mem hlj)
          have HSQ := Lib.hid (show (L.map Prod.fst)[j]'(by simpa using hlj) = L[j].1 by rw [List.getElem_map])
          obtain ⟨s, hs⟩ : ∃ s, L[j] = s := ⟨_, rfl⟩
          rw [hs] at p1 p2 p3 hs1 hs2
          obtain ⟨⟨x, y, l⟩, m⟩ := s
          have HSJ := Lib.hid hs
          dsimp only at p1 p2 p3 hs1 hs2
          obtain ⟨hx, hy⟩ := hs1
          have hsx := HS.out.1 x y hx hy
          obtain ⟨d, hd⟩ : ∃ d, E x y = d := ⟨_, rfl⟩
          have HD := Lib.hid hd
          rw [hd] at hsx
          have hd0 := hsx.1
          have hd1 := hsx.2.1
          have q0 := cell_keep HBR.out hb0 p0
          have q1 := cell_keep HBR.out hsb p1
          have q2 := cell_keep HBR.out hsb p2
          have q3 := cell_keep HBR.out hsb p3
          obtain ⟨⟨_, hgl, hgf⟩, hall, _⟩ := HM.out
          obtain ⟨x1, x2, x3, x4, x5, x6, x7⟩ := hall x hx
          obtain ⟨y1, y2, y3, y4, y5, y6, y7⟩ := hall y hy
          have x8 := x6 y hy
          have x9 := x7 (f x + y)
          rw [hd] at x8
          rw [Nat.zero_add] at x1 y1
          have hx0 : (0 : Int) ≤ x := by omega
          have hxn : (x : Int) < a := by omega
          have hy0 : (0 : Int) ≤ y := by omega
          have hyn : (y : Int) < a := by omega
          have hjl : (j : Int) < L.length := by omega
          have hj0 : (0 : Int) ≤ j := by omega
          have HP := Lib.hid (And.intro p1 (And.intro p2 p0))
          have HP := Lib.hid (And.intro p1 (And.intro p2 p0))
          clear hs hd hsx p0 p1 p2 p3 hall x6 x7 y6 y7 x4 y4 x5 y5 hgf
          by_cases hld : (l : Int) < d
          · have hmin : min d (l : Int) = l := by omega
            have hdl : decide ((l : Int) < d) = true := decide_eq_true hld
            have HMV := Lib.hid (show minI d (l : Int) = (l : Int) by unfold minI; rw [if_pos hld])
            go_wp2_with fail
            go_still_tail 30, (by kernel_rfl)
            change wpList _ _ _ _ _ wr.drew
            obtain ⟨W1, hW1⟩ : ∃ W1, wr.drew = W1 := ⟨_, rfl⟩
            have hb1 : Below wr.heap.size wr W1 := by rw [← hW1]; exact below_drewT _
            have n1 := cell_keep hb1 x3 x8
            have n2 : W1.frozen? ⟨b x, f x + y, none⟩ = false := by rw [hb1.frozen (p := ⟨b x, f x + y, none⟩) x3]; exact x9
            have HB1 := Lib.hid hb1
            rw [hW1]
            clear hW1 hb1 hmin hdl
            go_wp2_with fail
            obtain ⟨W2, hW2⟩ : ∃ W2, W1.setCell ⟨b x, f x + y, none⟩ (.int .i64 (l : Int)) = W2 := ⟨_, rfl⟩
            have hM2 : MatAt W2 w.heap.size w.heap.size 0 a b f cc (upd E x y (l : Int)) := by rw [← hW2]; exact (HM.out.keep HB1.out).put hx hy
            have hb2 : Below w.heap.size w W2 := by rw [← hW2]; exact (HBR.out.trans (HB1.out.mono hbz)).setCell (p := ⟨b x, f x + y, none⟩) x2 _
            have HM2 := Lib.hid hM2
            have HB2 := Lib.hid hb2
            have h2z := hb2.size
            have uu := cell_keep hb2 hb0 HP.out.2.2
            have u0 := cell_keep hb2 hsb HP.out.1
            have u1 := cell_keep hb2 hsb HP.out.2.1
            obtain ⟨_, hall2, _⟩ := hM2
            obtain ⟨v1, v2, v3, v4, v5, v6, v7⟩ := hall2 y hy
            obtain ⟨z1, z2, z3, z4, z5, z6, z7⟩ := hall2 x hx
            have v8 := v6 x hx
            have v9 := v7 (f y + x)
            have z8 := z6 y hy
            rw [show upd E x y (l : Int) x y = (l : Int) by simp [upd]] at z8
            rw [Nat.zero_add] at v1 z1
            have HU := Lib.hid v2
            rw [hW2]
            clear hW2 hb2 x1 x2 x3 x8 x9 q0 q1 q2 q3 hall2 v6 v7 v4 v5 z6 z7 z4 z5 z2 v2 n1 n2
            go_wp2_with fail
            go_still_tail 25, (by kernel_rfl)
            change wpList _ _ _ _ _ W2.drew
            obtain ⟨W3, hW3⟩ : ∃ W3, W2.drew = W3 := ⟨_, rfl⟩
            have hb3 : Below W2.heap.size W2 W3 := by rw [← hW3]; exact below_drewT _
            have n1 := cell_keep hb3 v3 v8
            have n2 : W3.frozen? ⟨b y, f y + x, none⟩ = false := by rw [hb3.frozen (p := ⟨b y, f y + x, none⟩) v3]; exact v9
            have HFIN := Lib.hid (And.intro ((HM2.out.keep hb3).put (v := (l : Int)) hy hx) ((HB2.out.trans (hb3.mono h2z)).setCell (p := ⟨b y, f y + x, none⟩) HU.out (.int .i64 (l : Int))))
            rw [hW3]
            clear hW3 hb3 uu u0 u1 v1 v3 v8 v9 z1 z3 z8
            go_wp2_with fail
            go_roundw
            case rel => exact ⟨j + 1, _, by omega, by go_num, Lib.hid (by have h3 := HS.out.put (by simpa using hlj) (by rw [HSQ.out, HSJ.out]) hx hy HTL.out; rw [HD.out, HMV.out] at h3; exact h3), Lib.hid HFIN.out.1, HFIN.out.2⟩
            case measure => simp [intOf]; omega
          · have hmin : min d (l : Int) = d := by omega
            have hdl : decide ((l : Int) < d) = false := decide_eq_false hld
            have hmin2 : min (l : Int) d = d := by omega
            have HMV := Lib.hid (show minI d (l : Int) = d by unfold minI; rw [if_neg hld])
            go_wp2_with fail
            go_still_tail 30, (by kernel_rfl)
            change wpList _ _ _ _ _ wr.drew
            obtain ⟨W1, hW1⟩ : ∃ W1, wr.drew = W1 := ⟨_, rfl⟩
            have hb1 : Below wr.heap.size wr W1 := by rw [← hW1]; exact below_drewT _
            have n1 := cell_keep hb1 x3 x8
            have n2 : W1.frozen? ⟨b x, f x + y, none⟩ = false := by rw [hb1.frozen (p := ⟨b x, f x + y, none⟩) x3]; exact x9
            have HB1 := Lib.hid hb1
            rw [hW1]
            clear hW1 hb1 hmin hdl hmin2
            go_wp2_with fail
            obtain ⟨W2, hW2⟩ : ∃ W2, W1.setCell ⟨b x, f x + y, none⟩ (.int .i64 d) = W2 := ⟨_, rfl⟩
            have hM2 : MatAt W2 w.heap.size w.heap.size 0 a b f cc (upd E x y d) := by rw [← hW2]; exact (HM.out.keep HB1.out).put hx hy
            have hb2 : Below w.heap.size w W2 := by rw [← hW2]; exact (HBR.out.trans (HB1.out.mono hbz)).setCell (p := ⟨b x, f x + y, none⟩) x2 _
            have HM2 := Lib.hid hM2
            have HB2 := Lib.hid hb2
            have h2z := hb2.size
            have uu := cell_keep hb2 hb0 HP.out.2.2
            have u0 := cell_keep hb2 hsb HP.out.1
            have u1 := cell_keep hb2 hsb HP.out.2.1
            obtain ⟨_, hall2, _⟩ := hM2
            obtain ⟨v1, v2, v3, v4, v5, v6, v7⟩ := hall2 y hy
            obtain ⟨z1, z2, z3, z4, z5, z6, z7⟩ := hall2 x hx
            have v8 := v6 x hx
            have v9 := v7 (f y + x)
            have z8 := z6 y hy
            rw [show upd E x y d x y = d by simp [upd]] at z8
            rw [Nat.zero_add] at v1 z1
            have HU := Lib.hid v2
            rw [hW2]
            clear hW2 hb2 x1 x2 x3 x8 x9 q0 q1 q2 q3 hall2 v6 v7 v4 v5 z6 z7 z4 z5 z2 v2 n1 n2
            go_wp2_with fail
            go_still_tail 25, (by kernel_rfl)
            change wpList _ _ _ _ _ W2.drew
            obtain ⟨W3, hW3⟩ : ∃ W3, W2.drew = W3 := ⟨_, rfl⟩
            have hb3 : Below W2.heap.size W2 W3 := by rw [← hW3]; exact below_drewT _
            have n1 := cell_keep hb3 v3 v8
            have n2 : W3.frozen? ⟨b y, f y + x, none⟩ = false := by rw [hb3.frozen (p := ⟨b y, f y + x, none⟩) v3]; exact v9
            have HFIN := Lib.hid (And.intro ((HM2.out.keep hb3).put (v := d) hy hx) ((HB2.out.trans (hb3.mono h2z)).setCell (p := ⟨b y, f y + x, none⟩) HU.out (.int .i64 d)))
            rw [hW3]
            clear hW3 hb3 uu u0 u1 v1 v3 v8 v9 z1 z3 z8
            go_wp2_with fail
            go_roundw
            case rel => exact ⟨j + 1, _, by omega, by go_num, Lib.hid (by have h3 := HS.out.put (by simpa using hlj) (by rw [HSQ.out, HSJ.out]) hx hy HTL.out; rw [HD.out, HMV.out] at h3; exact h3), Lib.hid HFIN.out.1, HFIN.out.2⟩
            case measure => simp [intOf]; omega
        · have hjj : j = L.length := by omega
          subst hjj
          have HFW := Lib.hid (show FwE a (L.map Prod.fst) 0 (fun _ _ => False) E from SxE.fw (by rw [List.length_map]; exact HS.out))
          have hsh := shorten_any w.heap.size w.heap.size a a b f cc E wr HM.out HFW.out.bd hn5
          have HSH := Lib.hid hsh
          clear HS hsh
          go_wp2_with fail
          refine HSH.out.mono ?_
          rintro e w2 ⟨rfl, hma, hb2⟩
          have HFIN := Lib.hid (And.intro hma.mgrid (HBR.out.trans hb2))
          have HFE := Lib.hid HFW.out.fw7
          clear hma hb2
          go_wp2_with fail
          go_ret
          exact ⟨fw7 a E, HFE.out, some ⟨w.heap.size, 0, none⟩, a, by rw [mat_len]; rfl, by rw [mat_len]; exact Nat.le_refl _, HFIN.out.1, HFIN.out.2⟩
end Go.Proofs.Ytjklnknlifpidaa
