/- impl.StacksOf. No condition. -/
import Derived.Test.YthfmmdigecjfnaaJ0
import Derived.Deep.RegionHeld3
namespace Go.Proofs.Ythfmmdigecjfnaa
open Go.RowKit

theorem Stacks.below {w w' : World} {g base : Nat} {L : Nat → List Int} (h : Stacks w g base L) (hb : Below w.heap.size w w') : Stacks w' g base L := h.same hb.size (fun i hi _ => hb.block i hi)

theorem Stacks.atIn {w w' : World} {g base s : Nat} {L : Nat → List Int} (h : Stacks w g base L) (hsz : w.heap.size ≤ w'.heap.size) (hk : ∀ i, i < w.heap.size → (i = g ∨ base ≤ i) → w'.heap[i]? = w.heap[i]?) (hs : s < 9) : ∃ (A : Option Addr) (c : Nat), (∀ i, A.map (·.block) = some i → base ≤ i ∧ i < w.heap.size) ∧
    w'.cell? ⟨g, s, none⟩ = some (.slice A (L s).length c) ∧ w'.ownsRow base 3 1 (.slice A (L s).length c) (L s).length ((L s).map (Value.int .i64)) ∧ ∀ x w'', PutPost w' g s base (L s).length A (L s) x w'' → Stacks w'' g base (fun t => if t = s then L s ++ [x] else L t) := by
  obtain ⟨A, c, h1, h2, h3⟩ := (h.same hsz hk).at hs
  obtain ⟨A0, c0, k1, k2, _⟩ := h.at hs
  have e := World.cell?_of_block (a := ⟨g, s, none⟩) (hk g (by have := h.1; have := h.2.1; omega) (.inl rfl))
  rw [h1, k1] at e
  simp only [Option.some.injEq, Value.slice.injEq, true_and] at e
  obtain ⟨rfl, rfl⟩ := e
  exact ⟨A, c, fun i hi => k2.lt i (by rw [slice_block]; exact hi), h1, h2, h3⟩
theorem PutPost.cellOther {w w' : World} {g s base n : Nat} {A : Option Addr} {xs : List Int} {x : Int} (h : PutPost w g s base n A xs x w') {a : Addr} (ha : a.block < w.heap.size) (hg : a.block ≠ g) (hA : A.map (·.block) ≠ some a.block) : w'.cell? a = w.cell? a := by
  obtain ⟨A', c', p1, p2, p3, p4⟩ := h
  exact World.cell?_of_block (p3.block a.block ha hg (fun e => hA e.symm))
theorem PutPost.undrew1 {w w' : World} {g s base n : Nat} {A : Option Addr} {xs : List Int} {x : Int} (h : PutPost w.drew g s base n A xs x w') : PutPost w g s base n A xs x w' := by
  obtain ⟨A', c', p1, p2, p3, p4⟩ := h
  exact ⟨A', c', p1, p2, ⟨p3.os, p3.tape, p3.output, p3.size, p3.block, p3.cell, p3.frozen⟩, p4⟩
theorem own_below {w w' : World} {base n : Nat} {e : TypeId} {v : Value} {size : Nat} {xs : List Value} (h : w.ownsRow base e size v n xs) (hb : Below w.heap.size w w') : w'.ownsRow base e size v n xs :=
  ownsRow_same h fun i hi => hb.block i (h.lt i hi).2

set_option maxRecDepth 100000 in
set_option maxHeartbeats 2000000 in
theorem stacksOf1_any (bp base : Nat) (A : Option Addr) (n c : Nat) (xs : List Int) (x : Int) (w : World) (hx : w.cell? ⟨bp, 0, none⟩ = some (.int .i64 x)) (hbp : bp < w.heap.size) (hn : n = xs.length) (hown : w.ownsRow base 3 1 (.slice A n c) n (xs.map (Value.int .i64))) (hl : n ≤ 1000) :
    Calls Try.prog 44 #[.slice A n c, .pointer (some ⟨bp, 0, none⟩)] w fun e w' => e = .returned (.bool (bearsB xs x)) ∧ Below w.heap.size w w' := by
  have hc1 : (w.alloc (.cells #[.slice A n c] 34)).cell? ⟨w.heap.size, 0, none⟩ = some (.slice A n c) := by
    rw [World.cell?_alloc_at _ _ _ _ rfl]; rfl
  have HBE := Lib.hid (bears_any w.heap.size 0 base A n c xs x _ hc1 hn (hown.alloc _) hl)
  have hx1 : (w.alloc (.cells #[.slice A n c] 34)).cell? ⟨bp, 0, none⟩ = some (.int .i64 x) := (World.cell?_of_block (a := ⟨bp, 0, none⟩) (heap_alloc_old w _ hbp)).trans hx
  have hb1 : Below w.heap.size w (w.alloc (.cells #[.slice A n c] 34)) := (Below.refl _ _).alloc (Nat.le_refl _) _
  have HB1 := Lib.hid hb1
  clear hc1 hown hx hb1 hn
  go_enter Try.func44, Try.ntmps44
  go_wp2_with (go_at_call 45; refine HBE.out.mono ?_; rintro e w' ⟨rfl, q, rfl⟩)
  go_ret
  exact ⟨rfl, below_drewN HB1.out q⟩

set_option maxRecDepth 100000 in
set_option maxHeartbeats 2000000 in
theorem indexFunc_any (g base bp u : Nat) (L : Nat → List Int) (x : Int) (w : World) (hst : Stacks w g base L) (hx : w.cell? ⟨bp, 0, none⟩ = some (.int .i64 x)) (hbp : bp < w.heap.size) (hu : u < 9) (hb : ∀ s, s < 9 → bearsB (L s) x = decide (u ≤ s)) (hL : ∀ s, s < 9 → (L s).length ≤ 1000) :
    Calls Try.prog 43 #[.slice (some ⟨g, 0, none⟩) 9 9, .func (Fn.func 44) #[] #[.pointer (some ⟨bp, 0, none⟩)]] w fun e w' => e = .returned (.int .i64 (u : Int)) ∧ Below w.heap.size w w' := by
  have HST := Lib.hid hst
  have HBB := Lib.hid hb
  have HLL := Lib.hid hL
  clear hst hb hL
  go_enter Try.func43, Try.ntmps43
  go_wp2
  go_loopw [8] (fun i wr => ∃ k : Nat, k ≤ u ∧ i = .int .i64 k ∧ Below w.heap.size w wr) (fun i _ => 9 - (intOf i).toNat)
  case atStart => exact ⟨0, by omega, rfl, Below.refl _ _⟩
  case round =>
    obtain ⟨k, hk, rfl, hbr⟩ := hrel
    have HBR := Lib.hid hbr
    have hsz := hbr.size
    have hs2 := HST.out.below hbr
    obtain ⟨A, c, hcell, hown, -⟩ := hs2.at (show k < 9 by omega)
    have hx2 : wr.cell? ⟨bp, 0, none⟩ = some (.int .i64 x) := (hbr.cell (p := ⟨bp, 0, none⟩) hbp).trans hx
    have hlk := HLL.out k (by omega)
    have hbk := HBB.out k (by omega)
    obtain ⟨n, hn⟩ : ∃ n, (L k).length = n := ⟨_, rfl⟩
    rw [hn] at hcell hown hlk
    have hcl := stacksOf1_any bp base A n c (L k) x wr hx2 (by omega) hn.symm hown hlk
    rw [hbk] at hcl
    have hkI : (k : Int) < 9 := by omega
    have hk0 : (0 : Int) ≤ (k : Int) := by omega
    by_cases hku : k = u
    · rw [decide_eq_true (by omega)] at hcl
      have HCL := Lib.hid hcl
      clear hcl hown hn hbk hs2 hx2 hbr
      subst hku
      go_wp2_with (go_at_call 44; refine HCL.out.mono ?_; rintro e w' ⟨rfl, hb5⟩; have HB5 := Lib.hid hb5; clear hb5)
      go_ret
      exact ⟨rfl, HBR.out.trans (HB5.out.mono hsz)⟩
    · rw [decide_eq_false (by omega)] at hcl
      have HCL := Lib.hid hcl
      have hk1 : k + 1 ≤ u := by omega
      clear hcl hown hn hbk hs2 hx2 hbr hku
      go_wp2_with (go_at_call 44; refine HCL.out.mono ?_; rintro e w' ⟨rfl, hb5⟩; have HB5 := Lib.hid hb5; clear hb5)
      go_roundw
      case rel => exact ⟨k + 1, hk1, by go_num, HBR.out.trans (HB5.out.mono hsz)⟩
      case measure => simp [intOf]; omega

set_option maxRecDepth 100000 in
set_option maxHeartbeats 4000000 in
theorem impStacksOf_any (A : Option Addr) (c0 : Nat) (zs : List Int) (w : World) (hr : Ints w w.heap.size A zs) (hc0 : zs.length ≤ c0) :
    Calls Try.prog 17 #[.slice A zs.length c0] w (iRes w (stkV zs)) := by
  obtain ⟨i0, hi0, hz0, hz1, hz2⟩ := info_parts Try.info3
  have hva := impValidRow_any A c0 zs w hr hc0
  by_cases hv : rowB 9 zs = true
  · rw [hv] at hva
    have HVA := Lib.hid hva
    have HR := Lib.hid hv
    have hl9 := rowB_len hv
    rw [stkV_yes hv]
    clear hva hv
    have HS0 := Lib.hid (Stacks.start w 35)
    have hb0 : Below w.heap.size w (w.alloc (.cells nines 35)) := (Below.refl _ _).alloc (Nat.le_refl _) _
    have HB0 := Lib.hid hb0
    obtain ⟨W0, hW0⟩ : ∃ W0, w.alloc (.cells nines 35) = W0 := ⟨_, rfl⟩
    have hW0s : W0.heap.size = w.heap.size + 1 := by rw [← hW0]; simp
    have HZ0 := Lib.hid hW0s
    have HW0 := Lib.hid hW0
    rw [hW0] at HS0 HB0
    have hW0' : w.alloc (.cells #[.slice none 0 0, .slice none 0 0, .slice none 0 0, .slice none 0 0, .slice none 0 0, .slice none 0 0, .slice none 0 0, .slice none 0 0, .slice none 0 0] 35) = W0 := hW0
    clear hb0 hW0 hW0s
    go_enter Try.func17, Try.ntmps17
    go_wp2_with (first | (go_at_call 37; refine HVA.out.mono ?_; rintro e w' ⟨rfl, rfl⟩) | (at_make; refine wpList_make_full _ rfl (.tmp 11) (.tmp 11) _ rfl W0.heap.size 3 i0 (.int .i64 0) 1 Try.underlying22 hi0 hz0 hz1 _ _ _ _ _ rfl rfl rfl rfl (by rw [hz2]; omega) (by unfold maxLen; omega) (Nat.le_refl _) ?_))
    intro w1 hown hg
    obtain ⟨h, hh⟩ : ∃ h, W0.heap.size = h := ⟨_, rfl⟩
    rw [hh] at hown ⊢
    have hhw : h = w.heap.size + 1 := by rw [← hh]; exact HZ0.out
    have hS1 : Stacks w1 w.heap.size (w.heap.size + 1) (fun _ => []) := HS0.out.same hg.size (fun i hi _ => hg.block i hi (by simp))
    have hb1 : Below w.heap.size w w1 := HB0.out.grown hg (by omega) (by simp)
    have hsz1 : h < w1.heap.size := by
      rw [toList_madeCells_one] at hown
      exact (hown.lt h rfl).2
    have hS2 : Stacks w1 w.heap.size (w.heap.size + 2) (fun s => lvl zs (stk zs) s 0) := by
      obtain ⟨q1, q2, q3, V, C, q4, q5⟩ := hS1
      exact ⟨by omega, by omega, q3, fun _ => none, fun _ => 0, fun s hs => ⟨by
        have hcell : W0.cell? ⟨w.heap.size, s, none⟩ = some (.slice none 0 0) := by rw [← HW0.out, cell_of_row _ _ s _ _ _ (heap_alloc_new w _)]; exact nines_at hs
        exact (World.cell?_of_block (a := ⟨w.heap.size, s, none⟩) (hg.block w.heap.size (by omega) (by simp))).trans hcell, World.ownsRow_nil _ _ _ _⟩, fun s t _ _ _ => .inl rfl⟩
    have hown' : w1.ownsRow (w.heap.size + 1) 3 1 (.slice (some ⟨h, 0, none⟩) zs.length zs.length) zs.length ((tab zs.length (fun j => if j < 0 then (stk zs j : Int) else 0)).map (Value.int .i64)) := by
      have h1 := hown
      rw [toList_madeCells_one] at h1
      rw [show tab zs.length (fun j => if j < 0 then (stk zs j : Int) else 0) = List.replicate zs.length 0 from by rw [tab_zero]; exact tab_congr fun j _ => by simp, List.map_replicate]
      exact own_base h1 (by omega)
    have HIN := Lib.hid (And.intro hS2 (And.intro hown' hb1))
    have HHW := Lib.hid hhw
    clear hS1 hS2 hown' hb1 hown hg HS0 HB0 HZ0 HW0 hW0' hh hhw hsz1
    go_wp2
    go_loopw [15] (fun i wr => ∃ k : Nat, k ≤ zs.length ∧ i = .int .i64 k ∧ Stacks wr w.heap.size (w.heap.size + 2) (fun s => lvl zs (stk zs) s k) ∧ wr.ownsRow (w.heap.size + 1) 3 1 (.slice (some ⟨h, 0, none⟩) zs.length zs.length) zs.length ((tab zs.length (fun j => if j < k then (stk zs j : Int) else 0)).map (Value.int .i64)) ∧ Below w.heap.size w wr) (fun i _ => zs.length - (intOf i).toNat)
    case atStart => exact ⟨0, by omega, rfl, HIN.out.1, HIN.out.2.1, HIN.out.2.2⟩
    case round =>
      clear HIN
      obtain ⟨k, hk, rfl, hst, hown, hbr⟩ := hrel
      have HST := Lib.hid hst
      have HBR := Lib.hid hbr
      have HOW := Lib.hid hown
      have hszr := hst.2.1
      by_cases hlt : k < zs.length
      · obtain ⟨b, o, rfl, hb, hc⟩ := (hr.below hbr).open (by simp; omega)
        have hcZ := ints_atD hc hlt
        have hbs := fun s (hs : s < 9) => bears_stk HR.out (s := s) hlt
        have hsl := stk_lt (zs := zs) (i := k)
        obtain ⟨x, hx⟩ : ∃ x, zs.getD k 0 = x := ⟨_, rfl⟩
        obtain ⟨u, hu⟩ : ∃ u, stk zs k = u := ⟨_, rfl⟩
        rw [hx] at hcZ hbs
        rw [hu] at hbs hsl
        have HX := Lib.hid (And.intro hx hu)
        -- the parcel in a box of its own
        obtain ⟨W1, hW1⟩ : ∃ W1, (wr.alloc (.cells #[.int .i64 0] 3)).setCell ⟨wr.heap.size, 0, none⟩ (.int .i64 x) = W1 := ⟨_, rfl⟩
        have hbl1 : ∀ i, i < wr.heap.size → W1.heap[i]? = wr.heap[i]? := fun i hi => by
          rw [← hW1, Below.heap_setCell _ _ _ _ (by simp; omega)]; exact heap_alloc_old wr _ hi
        have hsz1 : W1.heap.size = wr.heap.size + 1 := by rw [← hW1]; simp
        have hx1 : W1.cell? ⟨wr.heap.size, 0, none⟩ = some (.int .i64 x) := by
          rw [← hW1]
          have h0 : (wr.alloc (.cells #[.int .i64 0] 3)).cell? ⟨wr.heap.size, 0, none⟩ = some (.int .i64 0) := by rw [World.cell?_alloc_at _ _ _ _ rfl]; rfl
          exact World.cell?_setCell_same _ _ _ h0
        have hb01 : Below wr.heap.size wr W1 := by
          rw [← hW1]; exact ((Below.refl _ _).alloc (Nat.le_refl _) _).setCell (by exact Nat.le_refl _) _
        have hst1 := hst.below hb01
        have hix := indexFunc_any w.heap.size (w.heap.size + 2) wr.heap.size u _ x W1 hst1 hx1 (by omega) (by omega) hbs (fun s _ => by have := lvl_len zs (stk zs) s k; omega)
        have HIX := Lib.hid hix
        have HST1 := Lib.hid (And.intro hst1 (And.intro hb01 (And.intro hx1 hsz1)))
        have hk1 : k + 1 ≤ zs.length := by omega
        have hu9 : u < 9 := by omega
        have hkI : (k : Int) < zs.length := by omega
        have hk0 : (0 : Int) ≤ (k : Int) := by omega
        have huI : (u : Int) < 9 := by omega
        have hu0 : (0 : Int) ≤ (u : Int) := by omega
        clear hc hbs hx hu hst hown hbr hbl1 hx1 hb01 hst1 hix hsz1
        have HOW1 := Lib.hid (own_below HOW.out HST1.out.2.1)
        go_wp2_with (go_at_call 43; refine HIX.out.mono ?_; rintro e W2 ⟨rfl, hb2⟩; have HB2 := Lib.hid hb2; have hown2 := own_below HOW1.out hb2; have hfr2 := hown2.frozenAt k; have hat2 := hown2.cellAt k (by omega); rw [tab_vals_get hlt, if_neg (Nat.lt_irrefl k)] at hat2; have HO2 := Lib.hid hown2; obtain ⟨W3, hW3⟩ : ∃ W3, W2.setCell ⟨h, k, none⟩ (.int .i64 (u : Int)) = W3 := ⟨_, rfl⟩; clear hb2 hown2)
        have HS3 := Lib.hid (show Stacks W3 w.heap.size (w.heap.size + 2) (fun s => lvl zs (stk zs) s k) by
          rw [← hW3]
          refine (HST1.out.1.below HB2.out).same (by simp) fun i hi hg => Below.heap_setCell _ _ _ _ ?_
          have := HHW.out
          simp only
          omega)
        have ho3 := HO2.out.stored k (.int .i64 (u : Int))
        rw [hW3, ← List.map_set] at ho3
        have hb3 : Below w.heap.size w W3 := ((HBR.out.trans (HST1.out.2.1.mono HBR.out.size)).trans (HB2.out.mono (Nat.le_trans HBR.out.size HST1.out.2.1.size))).trans (by rw [← hW3]; exact (Below.refl _ _).setCell (by have := HHW.out; simp only; omega) _)
        have hx3 : W3.cell? ⟨wr.heap.size, 0, none⟩ = some (.int .i64 x) := by
          have := HHW.out
          rw [← hW3, World.cell?_setCell_other _ _ _ _ (by intro e; injection e with e _; omega)]
          exact (HB2.out.cell (p := ⟨wr.heap.size, 0, none⟩) (by have := HST1.out.2.2.2; simp only; omega)).trans HST1.out.2.2.1
        have hat3 : W3.cell? ⟨h, k, none⟩ = some (.int .i64 (u : Int)) := by rw [← hW3]; exact World.cell?_setCell_same _ _ _ hat2
        have hsz3 : wr.heap.size + 1 ≤ W3.heap.size := by rw [← hW3]; have := HB2.out.size; have := HST1.out.2.2.2; simp; omega
        obtain ⟨A', c', hA', hcell, hown, hput⟩ := HST.out.atIn (w' := W3) (by omega) (fun i hi hg => by
          have h1 : W2.heap[i]? = wr.heap[i]? := (HB2.out.block i (by have := HST1.out.2.2.2; omega)).trans (HST1.out.2.1.block i hi)
          rw [← h1, ← hW3]
          refine Below.heap_setCell _ _ _ _ ?_
          have := HHW.out
          simp only
          omega) hu9
        have HA' := Lib.hid hA'
        clear hA'
        have hlen := lvl_len zs (stk zs) u k
        obtain ⟨xs, hxs⟩ : ∃ xs, lvl zs (stk zs) u k = xs := ⟨_, rfl⟩
        simp only [hxs] at hcell hown hput hlen
        obtain ⟨n', hn'⟩ : ∃ n', xs.length = n' := ⟨_, rfl⟩
        rw [hn'] at hcell hown hput hlen
        have HPU := Lib.hid (put_any w.heap.size u (w.heap.size + 2) A' n' c' xs x W3.drew hcell (HS3.out.2.2.1 u) hown (by omega) HS3.out.2.1 (by omega))
        have HAB := Lib.hid (show ∀ i, A'.map (·.block) = some i → w.heap.size + 2 ≤ i from fun i hi => (HA'.out i hi).1)
        have hwr : w.heap.size < wr.heap.size := by omega
        have hhl : h < W3.heap.size := by have := HHW.out; omega
        have HPT := Lib.hid (And.intro hput hxs)
        have HFA := Lib.hid (And.intro hat3 hx3)
        have HO3 := Lib.hid ho3.1
        have HB3 := Lib.hid hb3
        clear hcell hown hput hlen hxs hn' hat3 hx3 ho3 hb3 hW3 hW1 hfr2 hat2 hcZ
        go_region_held3 (fun w' => w'.cell? ⟨h, k, none⟩ = some (.int .i64 (u : Int)) ∧ w'.cell? ⟨wr.heap.size, 0, none⟩ = some (.int .i64 x))
          (first | exact HFA.out | exact ⟨(hpost.undrew1.cellOther hhl (by have := HHW.out; simp only; omega) (fun e => by have := HAB.out _ e; have h2 := HHW.out; simp only at *; omega)).trans HFA.out.1, (hpost.undrew1.cellOther (by simp only; omega) (by simp only; omega) (fun e => by have h2 := (HA'.out _ e).2; simp only at *; omega)).trans HFA.out.2⟩)
          (first | (go_at_call 46; refine HPU.out.mono ?_; rintro e w5 ⟨rfl, hpost⟩))
        all_goals
          have hp2 := hpost.undrew1
          have hb5 : Below w.heap.size w w5 ∧ w5.ownsRow (w.heap.size + 1) 3 1 (.slice (some ⟨h, 0, none⟩) zs.length zs.length) zs.length (((tab zs.length fun j => if j < k then (stk zs j : Int) else 0).set k (u : Int)).map (Value.int .i64)) := by
            obtain ⟨A2, c2, _, _, h3, _⟩ := hp2
            refine ⟨HB3.out.trans (h3.below (Nat.le_refl _) HB3.out.size (fun i hi => by have := HAB.out i hi; omega)), h3.kept HO3.out (by omega) (fun i hi e => ?_)⟩
            have h4 := HAB.out i e
            have h5 := HHW.out
            simp only [Value.ownBlock, Option.some.injEq] at hi
            omega
          have HW := Lib.hid (And.intro (HPT.out.1 x w5 hp2) hb5)
          clear hpost hp2 hb5
          go_wp2
          go_roundw
          case rel =>
            refine ⟨k + 1, by omega, by go_num, HW.out.1.congr (fun s _ => ?_), ?_, HW.out.2.1⟩
            · simp only [lvl, HX.out.2]
              by_cases e : s = u
              · rw [if_pos e.symm, if_pos e, e, HPT.out.2, HX.out.1]
              · rw [if_neg (fun h => e h.symm), if_neg e]
            · have h1 := HW.out.2.2
              rw [tab_set' (g := fun j => if j < k + 1 then (stk zs j : Int) else 0) (fun j _ => by
                by_cases e : j = k
                · subst e; rw [if_pos (by omega), if_pos rfl, HX.out.2]
                · rw [if_neg e]
                  by_cases e2 : j < k
                  · rw [if_pos e2, if_pos (by omega)]
                  · rw [if_neg e2, if_neg (by omega)])] at h1
              exact h1
          case measure => simp [intOf]; omega
      · have hk' : k = zs.length := by omega
        have hfin : (tab zs.length fun j => if j < k then (stk zs j : Int) else 0) = stacksL zs := by
          unfold stacksL; exact tab_congr fun j hj => by rw [if_pos (by omega)]
        have HF := Lib.hid (iRes_row (V := stacksL zs) (by rw [hfin] at hown; exact own_base hown (by omega)) (stacksL_len zs).symm hbr)
        clear hown hst hbr hk' hfin
        go_wp2
        go_ret
        exact HF.out
  · have hv' : rowB 9 zs = false := by simpa using hv
    rw [hv'] at hva
    have HVA := Lib.hid hva
    rw [stkV_no hv']
    clear hva hv hv'
    go_enter Try.func17, Try.ntmps17
    go_wp2_with (go_at_call 37; refine HVA.out.mono ?_; rintro e w' ⟨rfl, rfl⟩)
    go_ret
    exact iRes.none rfl (Below.refl _ _)
end Go.Proofs.Ythfmmdigecjfnaa
