/- Cells that are set one by one; impl.oddsIn. No condition. -/
import Derived.Test.YtjklnknlifpidaaN9
namespace Go.Proofs.Ytjklnknlifpidaa
open Go.RowKit

/-- The first n cells of a block, which may be written. -/
def CellsAt (w : World) (base g n : Nat) (f : Nat → Value) : Prop := base ≤ g ∧ g < w.heap.size ∧ (∀ i, i < n → w.cell? ⟨g, i, none⟩ = some (f i)) ∧ ∀ j, w.frozen? ⟨g, j, none⟩ = false
section
variable {w w' : World} {base g n : Nat} {f : Nat → Value}
theorem CellsAt.keep (h : CellsAt w base g n f) (hb : Below w.heap.size w w') : CellsAt w' base g n f := by
  obtain ⟨h1, h2, h3, h4⟩ := h
  have := hb.size
  exact ⟨h1, by omega, fun i hi => by rw [hb.cell (p := ⟨g, i, none⟩) h2]; exact h3 i hi, fun j => by rw [hb.frozen (p := ⟨g, j, none⟩) h2]; exact h4 j⟩
theorem CellsAt.congr {f' : Nat → Value} (h : CellsAt w base g n f) (he : ∀ i, i < n → f' i = f i) : CellsAt w base g n f' := ⟨h.1, h.2.1, fun i hi => by rw [he i hi]; exact h.2.2.1 i hi, h.2.2.2⟩
theorem CellsAt.put (h : CellsAt w base g n f) {i : Nat} (hi : i < n) (v : Value) : CellsAt (w.setCell ⟨g, i, none⟩ v) base g n (fun k => if k = i then v else f k) := by
  obtain ⟨h1, h2, h3, h4⟩ := h
  have hsz : (w.setCell ⟨g, i, none⟩ v).heap.size = w.heap.size := by simp [World.setCell]
  refine ⟨h1, by omega, fun k hk => ?_, fun j => by rw [World.frozen?_setCell]; exact h4 j⟩
  show _ = some (if k = i then v else f k)
  by_cases e : k = i
  · subst e
    rw [if_pos rfl, World.cell?_setCell_same w _ _ (h3 k hk)]
  · rw [if_neg e, World.cell?_setCell_other w _ _ _ (by intro e2; injection e2 with e3 e4; omega)]
    exact h3 k hk
theorem CellsAt.other (h : CellsAt w base g n f) {b i : Nat} (hb : b ≠ g) (v : Value) : CellsAt (w.setCell ⟨b, i, none⟩ v) base g n f := by
  obtain ⟨h1, h2, h3, h4⟩ := h
  have hsz : (w.setCell ⟨b, i, none⟩ v).heap.size = w.heap.size := by simp [World.setCell]
  refine ⟨h1, by omega, fun k hk => ?_, fun j => by rw [World.frozen?_setCell]; exact h4 j⟩
  rw [World.cell?_setCell_other w _ _ _ (by intro e2; injection e2 with e3 e4; first | exact hb e3 | exact hb e3.symm)]
  exact h3 k hk
theorem CellsAt.of {xs : List Value} {e : TypeId} (h : w.heap[g]? = some (.cells xs.toArray e (0, 0))) (hb : base ≤ g) (hx : ∀ i, i < n → xs[i]? = some (f i)) : CellsAt w base g n f :=
  ⟨hb, lt_of_heap h, fun i hi => by rw [cell_of_row w _ _ _ _ _ h]; simpa using hx i hi, fun j => frozen_of_row _ _ _ _ _ h⟩
end

theorem rowLess {w : World} {base base' : Nat} {e : TypeId} {size n : Nat} {v : Value} {xs : List Value} (h : w.ownsRow base e size v n xs) (hb : base' ≤ base) : w.ownsRow base' e size v n xs := by
  obtain ⟨h1, h2⟩ := h
  refine ⟨h1, ?_⟩
  rcases h2 with h2 | ⟨g, cap, cur, h3, h4, h5⟩
  · exact .inl h2
  · exact .inr ⟨g, cap, cur, h3, by omega, h5⟩
theorem cells_apart {w w' : World} {base g n : Nat} {f : Nat → Value} {row : Option Nat} (h : CellsAt w base g n f) (hg : w.grownBy w' row) (hr : ∀ i, row = some i → i ≠ g) : CellsAt w' base g n f := by
  obtain ⟨h1, h2, h3, h4⟩ := h
  have hb : w'.heap[g]? = w.heap[g]? := hg.block g h2 (fun e => hr g e.symm rfl)
  refine ⟨h1, by have := hg.size; omega, fun i hi => ?_, fun j => ?_⟩
  · rw [World.cell?_of_block hb]; exact h3 i hi
  · rw [World.frozen?_of_block hb]; exact h4 j

set_option maxRecDepth 100000 in
set_option maxHeartbeats 4000000 in
theorem oddsIn_any (A : Option Addr) (c base n : Nat) (bs : List Nat) (L : List SW) (w : World) (ht : Town w base A bs L) (hl : L.length ≤ 7) (hlt : ∀ s ∈ L, s.1.1 < n ∧ s.1.2.1 < n) (hn : n ≤ 5) :
    Calls Try.prog 34 #[.slice A L.length c, .int .i64 (n : Int)] w (iRes w (oddsTo n (L.map Prod.fst))) := by
  have HLT := Lib.hid hlt
  have HT := Lib.hid ht
  obtain ⟨i0, hi0, hz0, hz1, hz2⟩ := info_parts Try.infoI
  clear hlt ht
  go_enter Try.func34, Try.ntmps34
  go_wp2_with (at_make; refine wpList_make_full _ rfl (.tmp 11) (.tmp 11) _ rfl w.heap.size 3 i0 (.int .i64 0) 1 Try.underlying24 hi0 hz0 hz1 _ _ _ _ n rfl rfl rfl rfl (by rw [hz2]; omega) (by unfold maxLen; omega) (Nat.le_refl _) ?_)
  intro w1 hown hg
  have HB1 := Lib.hid (show Below w.heap.size w w1 from (Below.refl _ _).grown hg (Nat.le_refl _) (by simp))
  have HC1 := Lib.hid (show CellsAt w1 w.heap.size w.heap.size n (fun i => .int .i64 ((degT ((L.map Prod.fst).take 0) i : Nat) : Int)) from CellsAt.of (own_heapN hown) (Nat.le_refl _) (fun i hi => by rw [toList_madeCells_one]; simp [degT, hi]))
  clear hown hg
  go_wp2_with fail
  go_loopw [15] (fun i wr => ∃ k : Nat, k ≤ L.length ∧ i = .int .i64 k ∧ CellsAt wr w.heap.size w.heap.size n (fun i => .int .i64 ((degT ((L.map Prod.fst).take k) i : Nat) : Int)) ∧ Below w.heap.size w wr) (fun i _ => L.length - (intOf i).toNat)
  case atStart => exact ⟨0, by omega, rfl, HC1.out, HB1.out⟩
  case round =>
    obtain ⟨k, hk, rfl, hc, hbr⟩ := hrel
    have HC := Lib.hid hc
    have HBR := Lib.hid hbr
    have hbz := hbr.size
    clear hc hbr HC1 HB1
    by_cases hlk : k < L.length
    · obtain ⟨b0, o, b, rfl, hb0, p0, hb, _, _, p1, p2, _, _⟩ := Town.street HT.out hlk
      have hs1 := HLT.out _ (List.getElem_mem hlk)
      have HD := Lib.hid (fun i => degT_take (ss := L.map Prod.fst) (k := k) (by simpa using hlk) i)
      have HSQ := Lib.hid (show (L.map Prod.fst)[k]'(by simpa using hlk) = L[k].1 by rw [List.getElem_map])
      obtain ⟨s, hs⟩ : ∃ s, L[k] = s := ⟨_, rfl⟩
      rw [hs] at p1 p2 hs1
      obtain ⟨⟨x, y, l⟩, m⟩ := s
      have HSJ := Lib.hid hs
      try dsimp only at p1 p2 hs1
      obtain ⟨hx, hy⟩ := hs1
      have hc := HC.out
      have hcx : wr.cell? ⟨w.heap.size, x, none⟩ = some (.int .i64 ((degT ((L.map Prod.fst).take k) x : Nat) : Int)) := hc.2.2.1 x hx
      have hfx := hc.2.2.2 x
      have hfy := hc.2.2.2 y
      have hdx := degT_take_le (L.map Prod.fst) k x
      have hdy := degT_take_le (L.map Prod.fst) k y
      have hc2 := hc.put hx (.int .i64 ((degT ((L.map Prod.fst).take k) x : Nat) + 1 : Int))
      have hcy : (wr.setCell ⟨w.heap.size, x, none⟩ (.int .i64 ((degT ((L.map Prod.fst).take k) x : Nat) + 1 : Int))).cell? ⟨w.heap.size, y, none⟩ = some (if y = x then Value.int .i64 ((degT ((L.map Prod.fst).take k) x : Nat) + 1 : Int) else .int .i64 ((degT ((L.map Prod.fst).take k) y : Nat) : Int)) := hc2.2.2.1 y hy
      obtain ⟨v, hv, hvl⟩ : ∃ v : Nat, (if y = x then Value.int .i64 ((degT ((L.map Prod.fst).take k) x : Nat) + 1 : Int) else .int .i64 ((degT ((L.map Prod.fst).take k) y : Nat) : Int)) = .int .i64 (v : Int) ∧ v ≤ 2 * k + 1 ∧ v = degT ((L.map Prod.fst).take k) y + (if y = x then 1 else 0) := by
        by_cases e : y = x
        · subst e
          exact ⟨degT ((L.map Prod.fst).take k) y + 1, by rw [if_pos rfl]; go_num, by omega, by rw [if_pos rfl]⟩
        · exact ⟨degT ((L.map Prod.fst).take k) y, by rw [if_neg e], by omega, by rw [if_neg e]; rfl⟩
      have HVL := Lib.hid hvl.2
      have hvb := hvl.1
      rw [hv] at hcy
      have hc3 := hc2.put hy (.int .i64 ((v : Int) + 1))
      have hc4 := hc3.congr (f' := fun i => .int .i64 ((degT ((L.map Prod.fst).take (k + 1)) i : Nat) : Int)) (fun i hi => by
        try dsimp only
        rw [HD.out i, HSQ.out, HSJ.out]
        have h2 := HVL.out
        by_cases e2 : i = y
        · subst e2
          rw [if_pos rfl]
          by_cases e1 : i = x
          · subst e1
            rw [if_pos rfl] at h2
            simp [ends1]; omega
          · rw [if_neg e1] at h2
            have e1' : ¬ x = i := fun h => e1 h.symm
            simp [ends1, e1']; omega
        · rw [if_neg e2]
          have e2' : ¬ y = i := fun h => e2 h.symm
          by_cases e1 : i = x
          · subst e1
            rw [if_pos rfl]
            simp [ends1, e2']
          · rw [if_neg e1]
            have e1' : ¬ x = i := fun h => e1 h.symm
            simp [ends1, e1', e2'])
      have hbW : Below w.heap.size w (wr.setCell ⟨w.heap.size, x, none⟩ (.int .i64 ((degT ((L.map Prod.fst).take k) x : Nat) + 1 : Int))) := HBR.out.setCell (p := ⟨w.heap.size, x, none⟩) (Nat.le_refl _) _
      have HFIN := Lib.hid (And.intro hc4 (hbW.setCell (p := ⟨w.heap.size, y, none⟩) (Nat.le_refl _) (.int .i64 ((v : Int) + 1))))
      have q0 := cell_keep HBR.out hb0 p0
      have q1 := cell_keep HBR.out hb p1
      have q2 := cell_keep HBR.out hb p2
      have r1 := cell_keep hbW hb p1
      have r2 := cell_keep hbW hb p2
      obtain ⟨d, hd⟩ : ∃ d, degT ((L.map Prod.fst).take k) x = d := ⟨_, rfl⟩
      rw [hd] at hcx hdx hcy r1 r2 HFIN
      have hx0 : (0 : Int) ≤ x := by omega
      have hxn : (x : Int) < n := by omega
      have hy0 : (0 : Int) ≤ y := by omega
      have hyn : (y : Int) < n := by omega
      have hkl : (k : Int) < L.length := by omega
      have hk0 : (0 : Int) ≤ k := by omega
      clear hd hc hc2 hc3 hc4 hv hvl hs hdy hbW p0 p1 p2 HC
      go_wp2_with fail
      go_roundw
      case rel => exact ⟨k + 1, by omega, by go_num, HFIN.out.1, HFIN.out.2⟩
      case measure => simp [intOf]; omega
    · have hkk : k = L.length := by omega
      subst hkk
      have hc := HC.out
      rw [show (L.map Prod.fst).take L.length = L.map Prod.fst by rw [← List.length_map (f := Prod.fst)]; exact List.take_length] at hc
      have HC2 := Lib.hid hc
      clear hc HC
      go_wp2_with fail
      go_loopw [8, 40] (fun v i wr => ∃ (k m : Nat) (H : Option Addr) (cH : Nat), k ≤ n ∧ i = .int .i64 k ∧ v = .slice H m cH ∧ m = (oddsTo k (L.map Prod.fst)).length ∧ wr.ownsRow (w.heap.size + 1) 3 1 (.slice H m cH) m ((oddsTo k (L.map Prod.fst)).map (Value.int .i64)) ∧ CellsAt wr w.heap.size w.heap.size n (fun i => .int .i64 ((degT (L.map Prod.fst) i : Nat) : Int)) ∧ Below w.heap.size w wr) (fun _ i _ => n - (intOf i).toNat)
      case atStart => exact ⟨0, 0, none, 0, by omega, rfl, rfl, rfl, ⟨rfl, .inl ⟨rfl, rfl⟩⟩, HC2.out, HBR.out⟩
      case round =>
        clear HC2 HBR hbz
        obtain ⟨k, m, H, cH, hk, rfl, rfl, hm, hown, hc, hbr⟩ := hrel
        have HM := Lib.hid hm
        have HO := Lib.hid hown
        have HC := Lib.hid hc
        have HBR := Lib.hid hbr
        have hbz := hbr.size
        have hcz := hc.2.1
        have hm5 : m ≤ 5 := by have := oddsTo_len (L.map Prod.fst) k; omega
        clear hm hown
        by_cases hlt : k < n
        · have hcell : wr.cell? ⟨w.heap.size, k, none⟩ = some (.int .i64 ((degT (L.map Prod.fst) k : Nat) : Int)) := hc.2.2.1 k hlt
          have hz : ((0 : Nat) + k) = k := Nat.zero_add k
          have hk0 : (0 : Int) ≤ k := by omega
          have hkn : (k : Int) < n := by omega
          have hdl := degT_le (L.map Prod.fst) k
          rw [List.length_map] at hdl
          by_cases ho : degT (L.map Prod.fst) k % 2 = 1
          · have HF := Lib.hid (oddsTo_yes ho)
            have hpar : ((degT (L.map Prod.fst) k : Int) % 2 == 1) = true := by simp; omega
            have hown := HO.out
            obtain ⟨d, hd⟩ : ∃ d, degT (L.map Prod.fst) k = d := ⟨_, rfl⟩
            rw [hd] at hpar hdl hcell
            clear hd ho hbr hc hz
            go_wp2_with (at_builtin; refine wpList_push rfl (.tmp 48) (.tmp 50) 24 rfl i0 (.int .i64 0) 8 Try.underlying24 hi0 hz0 hz1 hz2 rfl (by decide) _ _ rfl hown [.int .i64 (k : Int)] rfl rfl (by simp [Value.oneCell']) (by omega) (by omega) (by omega) ?_)
            intro H' c' w6 hown6 hg6
            have HW := Lib.hid (And.intro hown6 (And.intro (cells_apart HC.out hg6 (fun i hi => by have := (hown.lt _ hi).1; omega)) (HBR.out.grown hg6 hbz (fun i hi => by have := (hown.lt _ hi).1; omega))))
            clear hown hown6 hg6
            go_wp2_with fail
            go_roundw
            case rel => exact ⟨k + 1, m + 1, H', c', by omega, by go_num, rfl, by rw [HF.out, List.length_append, ← HM.out]; rfl, by rw [HF.out, List.map_append]; exact HW.out.1, HW.out.2.1, HW.out.2.2⟩
            case measure => simp [intOf]; omega
          · have HF := Lib.hid (oddsTo_no ho)
            have hpar : ((degT (L.map Prod.fst) k : Int) % 2 == 1) = false := by simp; omega
            obtain ⟨d, hd⟩ : ∃ d, degT (L.map Prod.fst) k = d := ⟨_, rfl⟩
            rw [hd] at hpar hdl hcell
            clear hd ho hbr hc hz
            go_wp2_with fail
            go_roundw
            case rel => exact ⟨k + 1, m, H, cH, by omega, by go_num, rfl, by rw [HF.out]; exact HM.out, by rw [HF.out]; exact HO.out, HC.out, HBR.out⟩
            case measure => simp [intOf]; omega
        · have hkn : k = n := by omega
          subst hkn
          have HF := Lib.hid (iRes_row (rowLess HO.out (Nat.le_succ _)) HM.out HBR.out)
          clear hc hbr
          go_wp2_with fail
          go_ret
          exact HF.out
end Go.Proofs.Ytjklnknlifpidaa
