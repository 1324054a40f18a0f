/- Calls: KnownAfter on both sides. No condition. -/
import Derived.Test.YtonnffilcmlodaaVb
import Derived.Test.YtonnffilcmlodaaG6
import Derived.Test.YtonnffilcmlodaaN9i
import Derived.Test.YtonnffilcmlodaaS1
import Derived.StillTailTactics
namespace Go.Proofs.Ytonnffilcmlodaa
open Go.RowKit

theorem Try.infoC : (Try.prog.info? 3).map (fun i => (i.zero, i.size, i.bytes)) = some (some (.int .i64 0), 1, 8) := by kernel_rfl
theorem first_litC (W : World) : (W.alloc (.cells #[] 3)).ownsRow W.heap.size 3 1 (.slice (some ⟨W.heap.size, 0, none⟩) 0 0) 0 [] := ⟨rfl, .inr ⟨W.heap.size, 0, #[], rfl, Nat.le_refl _, heap_alloc_new W _, Nat.le_refl _, by simp [maxLen], rfl, rfl⟩⟩
theorem ofInt_i64 (a : Nat) (ha : a < 4611686018427387904) : (BitVec.ofInt 64 (a : Int)).toNat = a := by
  rw [BitVec.ofInt_natCast, BitVec.toNat_ofNat]; exact Nat.mod_eq_of_lt (by omega)
theorem orBits {x y : Int} (h1 : 0 ≤ x) (h2 : x < 128) (h3 : 0 ≤ y) (h4 : y < 128) : bits .or .i64 x y = orI x y := by
  obtain ⟨a, rfl⟩ := Int.eq_ofNat_of_zero_le h1
  obtain ⟨b, rfl⟩ := Int.eq_ofNat_of_zero_le h3
  have hx : a ||| b < 2 ^ 7 := Nat.or_lt_two_pow (by omega) (by omega)
  show IntKind.i64.wrap ((BitVec.ofInt 64 (a : Int) ||| BitVec.ofInt 64 (b : Int)).toNat : Int) = _
  rw [BitVec.toNat_or, ofInt_i64 a (by omega), ofInt_i64 b (by omega)]
  exact IntWalk.i64_in _ (by omega)
theorem sets7 {n : Nat} {r : List Int} (h : Sets n r) (h7 : n ≤ 7) (i : Nat) : 0 ≤ r.getD i 0 ∧ r.getD i 0 < 128 := by
  have h1 := h.at (i := i)
  have h2 : 2 ^ n ≤ 2 ^ 7 := Nat.pow_le_pow_right (by omega) h7
  omega
theorem map_getD {r : List Int} {i : Nat} (hi : i < r.length) : (r.map (Value.int .i64))[i]? = some (.int .i64 (r.getD i 0)) := by
  rw [List.getElem?_map, List.getElem?_eq_getElem hi]
  show some _ = _
  rw [List.getD_eq_getElem?_getD, List.getElem?_eq_getElem hi]; rfl

/-- A call of two, in a row of the call's own. -/
theorem told_store {w : World} {base g n c : Nat} {r : List Int} {a b : Nat} {v : Int} (hown : w.ownsRow base 3 1 (.slice (some ⟨g, 0, none⟩) n c) n (r.map (Value.int .i64))) (hv : v = orI (r.getD a 0) (r.getD b 0)) :
    ((w.setCell ⟨g, a, none⟩ (.int .i64 v)).setCell ⟨g, b, none⟩ (.int .i64 v)).ownsRow base 3 1 (.slice (some ⟨g, 0, none⟩) n c) n ((told r a b).map (Value.int .i64)) ∧ w.grownBy ((w.setCell ⟨g, a, none⟩ (.int .i64 v)).setCell ⟨g, b, none⟩ (.int .i64 v)) (some g) := by
  have h1 := hown.stored a (.int .i64 v)
  have h2 := h1.1.stored b (.int .i64 v)
  rw [← List.map_set, ← List.map_set] at h2
  subst hv
  exact ⟨h2.1, grown_trans h1.2 h2.2⟩

set_option maxRecDepth 100000 in
set_option maxHeartbeats 4000000 in
theorem tell_any (g n base c a b : Nat) (r : List Int) (w : World) (hown : w.ownsRow base 3 1 (.slice (some ⟨g, 0, none⟩) n c) n (r.map (Value.int .i64))) (hn : Sets n r) (h7 : n ≤ 7) (ha : a < n) (hb : b < n) :
    Calls Try.prog 47 #[.slice (some ⟨g, 0, none⟩) n c, .int .i64 a, .int .i64 b] w fun e w' => e = .returned (.tuple #[]) ∧ w'.ownsRow base 3 1 (.slice (some ⟨g, 0, none⟩) n c) n ((told r a b).map (Value.int .i64)) ∧ ∃ m, (w.drewN m).grownBy w' (some g) := by
  have hl := hn.1
  obtain ⟨x0, x1⟩ := sets7 hn h7 a
  obtain ⟨y0, y1⟩ := sets7 hn h7 b
  have hO := hown.drew
  have q1 := hO.cellAt a (by omega)
  have q2 := hO.cellAt b (by omega)
  have fa := hO.frozenAt a
  rw [map_getD (by omega)] at q1 q2
  have HT := fun v hv => told_store (a := a) (b := b) (v := v) hO hv
  obtain ⟨x, hx⟩ : ∃ x, r.getD a 0 = x := ⟨_, rfl⟩
  obtain ⟨y, hy⟩ : ∃ y, r.getD b 0 = y := ⟨_, rfl⟩
  rw [hx] at q1 x0 x1 HT
  rw [hy] at q2 y0 y1 HT
  have hor := orBits x0 x1 y0 y1
  obtain ⟨v, hv⟩ : ∃ v, orI x y = v := ⟨_, rfl⟩
  rw [hv] at hor HT
  have HT2 := Lib.hid (HT v rfl)
  have hst := hO.stored a (.int .i64 v)
  have q3 := hst.1.cellAt a (by omega)
  rw [← List.map_set, map_getD (by rw [List.length_set]; omega), show (r.set a v).getD a 0 = v by rw [List.getD_eq_getElem?_getD, List.getElem?_set, if_pos rfl, if_pos (by omega)]; rfl] at q3
  have q4 := hst.1.cellAt b (by omega)
  rw [← List.map_set, map_getD (by rw [List.length_set]; omega)] at q4
  have fb := hst.1.frozenAt b
  have haI : (a : Int) < (n : Int) := by omega
  have hbI : (b : Int) < (n : Int) := by omega
  have ha0 : (0 : Int) ≤ (a : Int) := by omega
  have hb0 : (0 : Int) ≤ (b : Int) := by omega
  obtain ⟨W1, hW1⟩ : ∃ W1, w.drew = W1 := ⟨_, rfl⟩
  rw [hW1] at q1 q2 fa HT2 q3 q4 fb
  have q1' : w.cell? ⟨g, a, none⟩ = some (.int .i64 x) := by rw [← hW1] at q1; exact q1
  have q2' : w.cell? ⟨g, b, none⟩ = some (.int .i64 y) := by rw [← hW1] at q2; exact q2
  have HW1 := Lib.hid hW1
  obtain ⟨W2, hW2⟩ : ∃ W2, W1.setCell ⟨g, a, none⟩ (.int .i64 v) = W2 := ⟨_, rfl⟩
  rw [hW2] at q3 q4 fb HT2
  have HW2 := Lib.hid hW2
  obtain ⟨y4, hy4⟩ : ∃ y4, (r.set a v).getD b 0 = y4 := ⟨_, rfl⟩
  rw [hy4] at q4
  clear hy4
  clear hown hn hx hy hst HT hv hO hl
  go_enter Try.func47, Try.ntmps47
  go_wp2_with fail
  go_still_tail 10, (by kernel_rfl)
  change wpList _ _ _ _ _ w.drew
  rw [hW1]
  clear hW1 q1' q2'
  go_wp2_with fail
  go_end0
  exact ⟨rfl, HT2.out.1, 1, by rw [show w.drewN 1 = W1 from HW1.out]; exact HT2.out.2⟩

theorem cellOC {W : World} {b g s o : Nat} {v u : Value} (hne : b ≠ g) (h : W.cell? ⟨b, o, none⟩ = some u) : (W.setCell ⟨g, s, none⟩ v).cell? ⟨b, o, none⟩ = some u := by
  rw [World.cell?_setCell_other _ _ _ _ (by intro e; simp only [Addr.mk.injEq] at e; exact hne (by first | exact e.1 | exact e.1.symm))]; exact h
theorem cellKC {w w' : World} {B b o : Nat} {u : Value} (hb : Below B w w') (h : b < B) (hc : w.cell? ⟨b, o, none⟩ = some u) : w'.cell? ⟨b, o, none⟩ = some u := (hb.cell (p := ⟨b, o, none⟩) h).trans hc
theorem below_drewC {B : Nat} {a w : World} (h : Below B a w) : Below B a w.drew := ⟨h.os, h.tape, h.output, h.size, h.block⟩
theorem own_keepC {w w' : World} {base n : Nat} {e : TypeId} {v : Value} {size : Nat} {xs : List Value} (h : w.ownsRow base e size v n xs) (hb : Below w.heap.size w w') : w'.ownsRow base e size v n xs := by
  refine ⟨h.1, ?_⟩
  rcases h.2 with hn | ⟨k, cap, cur, rfl, hb2, hgg, rest⟩
  · exact .inl hn
  · exact .inr ⟨k, cap, cur, rfl, hb2, by rw [hb.block k (Array.getElem?_eq_some_iff.1 hgg).1]; exact hgg, rest⟩
theorem own_lessC {w : World} {base base' n : Nat} {e : TypeId} {v : Value} {size : Nat} {xs : List Value} (h : w.ownsRow base e size v n xs) (hb : base' ≤ base) : w.ownsRow base' e size v n xs := by
  refine ⟨h.1, ?_⟩
  rcases h.2 with hn | ⟨k, cap, cur, rfl, hb2, hgg, rest⟩
  · exact .inl hn
  · exact .inr ⟨k, cap, cur, rfl, by omega, hgg, rest⟩
theorem shlC_all : ∀ k : Fin 63, IntKind.i64.wrap ((2 : Int) ^ k.val) = 2 ^ k.val := by decide +kernel
theorem shlC {k : Nat} (hk : k < 63) : IntKind.i64.wrap ((2 : Int) ^ k) = 2 ^ k := shlC_all ⟨k, hk⟩
theorem own0_succ (k : Nat) : own0 (k + 1) = own0 k ++ [((2 ^ k : Nat) : Int)] := by simp [own0, tab, List.range_succ]
/-- What each one knows at first, so far; the others are 0. -/
def ownTo (n k : Nat) : List Int := tab n fun i => if i < k then ((2 ^ i : Nat) : Int) else 0
theorem ownTo_end (n : Nat) : ownTo n n = own0 n := tab_congr fun j hj => by rw [if_pos hj]
theorem ownTo_zero (n : Nat) : ownTo n 0 = List.replicate n 0 := by
  rw [tab_zero]; exact tab_congr fun j _ => by rw [if_neg (by omega)]
theorem ownTo_set {n k : Nat} : (ownTo n k).set k ((2 ^ k : Nat) : Int) = ownTo n (k + 1) := by
  unfold ownTo
  exact tab_set' fun j _ => by
    by_cases e : j = k
    · subst e; rw [if_pos (by omega), if_pos rfl]
    · rw [if_neg e]
      by_cases h : j < k
      · rw [if_pos h, if_pos (by omega)]
      · rw [if_neg h, if_neg (by omega)]

set_option maxRecDepth 100000 in
set_option maxHeartbeats 4000000 in
theorem ownNews_any (n : Nat) (w : World) (h7 : n ≤ 7) (h1 : 1 ≤ n) :
    Calls Try.prog 46 #[.int .i64 n] w fun e w' => ∃ c g, e = .returned (.slice (some ⟨g, 0, none⟩) n c) ∧ w'.ownsRow w.heap.size 3 1 (.slice (some ⟨g, 0, none⟩) n c) n ((own0 n).map (Value.int .i64)) ∧ Below w.heap.size w w' := by
  obtain ⟨i0, hi0, hz0, hz1, hz2⟩ := info_parts Try.infoC
  go_enter Try.func46, Try.ntmps46
  go_wp2_with (at_make; refine wpList_make_full _ rfl (.tmp 5) (.tmp 5) _ rfl w.heap.size 3 i0 (.int .i64 0) 1 Try.underlying28 hi0 hz0 hz1 _ _ _ _ n rfl rfl rfl rfl (by rw [hz2]; omega) (by unfold maxLen; omega) (Nat.le_refl _) ?_)
  intro w1 hown hg
  have hb1 : Below w.heap.size w w1 := (Below.refl _ _).grown hg (Nat.le_refl _) (by simp)
  have HST := Lib.hid (show w1.ownsRow w.heap.size 3 1 (.slice (some ⟨w.heap.size, 0, none⟩) n n) n ((ownTo n 0).map (Value.int .i64)) by
    have h1 := hown
    rw [toList_madeCells_one] at h1
    rw [ownTo_zero]; simpa using h1)
  have HB1 := Lib.hid hb1
  clear hown hg hb1
  go_wp2
  go_loopw [9] (fun i wr => ∃ k : Nat, k ≤ n ∧ i = .int .i64 k ∧ wr.ownsRow w.heap.size 3 1 (.slice (some ⟨w.heap.size, 0, none⟩) n n) n ((ownTo n k).map (Value.int .i64)) ∧ Below w.heap.size w wr) (fun i _ => n - (intOf i).toNat)
  case atStart => exact ⟨0, by omega, rfl, HST.out, HB1.out⟩
  case round =>
    obtain ⟨k, hk, rfl, hown, hbr⟩ := hrel
    clear HST HB1
    have HBR := Lib.hid hbr
    by_cases hlt : k < n
    · have hkI : (k : Int) < n := by omega
      have hk0 : (0 : Int) ≤ (k : Int) := by omega
      have e1 := shlC (show k < 63 by omega)
      have hat := hown.cellAt k (by omega)
      rw [map_getD (by unfold ownTo; rw [tab_length]; exact hlt)] at hat
      obtain ⟨z, hz⟩ : ∃ z, (ownTo n k).getD k 0 = z := ⟨_, rfl⟩
      rw [hz] at hat
      have hfr := hown.frozenAt k
      have hst := hown.stored k (.int .i64 ((2 : Int) ^ k))
      rw [← List.map_set, show ((2 : Int) ^ k) = ((2 ^ k : Nat) : Int) by simp, ownTo_set] at hst
      have HW := Lib.hid (And.intro hst.1 (hbr.grown hst.2 hbr.size (fun i hi => by injection hi with hi; omega)))
      clear hz hst hown hbr
      go_wp2
      go_roundw
      case rel => exact ⟨k + 1, by omega, by go_num, by have := HW.out.1; simpa using this, by have := HW.out.2; simpa using this⟩
      case measure => simp [intOf]; omega
    · have hkn : k = n := by omega
      have HF := Lib.hid (show wr.ownsRow w.heap.size 3 1 (.slice (some ⟨w.heap.size, 0, none⟩) n n) n ((own0 n).map (Value.int .i64)) by rw [hkn, ownTo_end] at hown; rw [← hkn] at hown ⊢; rw [hkn]; exact hkn ▸ hown)
      clear hown hkn
      go_wp2
      go_ret
      exact ⟨n, _, rfl, HF.out, HBR.out⟩

/-- What is known behind calls, or nothing. -/
def knL (n : Int) (rs : List (List Int)) : List Int := if callsB n rs then kn n.toNat rs else []
theorem kn_take {n k : Nat} {rs : List (List Int)} (hk : k < rs.length) : kn n (rs.take (k + 1)) = toldR (kn n (rs.take k)) rs[k] := by
  rw [List.take_succ_eq_append_getElem hk, kn_snoc]

set_option maxRecDepth 100000 in
set_option maxHeartbeats 4000000 in
theorem knownLow_any (A : Option Addr) (c : Nat) (rs : List (List Int)) (n : Nat) (w : World) (hr : Grid w 0 w.heap.size A rs) (hv : callsB n rs = true) :
    Calls Try.prog 48 #[.int .i64 n, .slice A rs.length c] w fun e w' => ∃ c' g, e = .returned (.slice (some ⟨g, 0, none⟩) n c') ∧ w'.ownsRow w.heap.size 3 1 (.slice (some ⟨g, 0, none⟩) n c') n ((kn n rs).map (Value.int .i64)) ∧ Below w.heap.size w w' := by
  obtain ⟨i0, hi0, hz0, hz1, hz2⟩ := info_parts Try.infoC
  obtain ⟨v1, v2, v3, v4⟩ := callsB_of hv
  have HV := Lib.hid v1
  have HPW := Lib.hid (fun (k : Nat) (hk : k < n) (X : World) => power_any 2 k X (by omega) (by have := Nat.pow_le_pow_right (show 0 < 2 by omega) (show k ≤ 7 by omega); omega) (by omega))
  have HR := Lib.hid hr
  have HST := Lib.hid (first_litC w)
  clear hv v1 hr
  go_enter Try.func48, Try.ntmps48
  go_wp2
  go_loopw [5, 6] (fun v i wr => ∃ (k : Nat) (H : Option Addr) (cH : Nat), k ≤ n ∧ i = .int .i64 k ∧ v = .slice H k cH ∧ wr.ownsRow w.heap.size 3 1 (.slice H k cH) k ((own0 k).map (Value.int .i64)) ∧ Below w.heap.size w wr) (fun _ i _ => n - (intOf i).toNat)
  case atStart => exact ⟨0, _, _, by omega, rfl, rfl, HST.out, (Below.refl _ _).alloc (Nat.le_refl _) _⟩
  case round =>
    obtain ⟨k, H, cH, hk, rfl, rfl, hown, hbr⟩ := hrel
    clear HST
    have HBR := Lib.hid hbr
    have HO := Lib.hid hown
    have hbz := hbr.size
    by_cases hlt : k < n
    · have hkI : (k : Int) < n := by omega
      have HP := Lib.hid (HPW.out k hlt)
      have HSU := Lib.hid (own0_succ k)
      obtain ⟨P, hP⟩ : ∃ P, 2 ^ k = P := ⟨_, rfl⟩
      rw [hP] at HP HSU
      clear hP hown hbr
      go_wp2_with fail
      refine (HP.out _).mono ?_
      rintro e w' ⟨rfl, rfl⟩
      go_wp2_with (at_builtin; refine wpList_push rfl (.tmp 15) (.tmp 18) 28 rfl i0 (.int .i64 0) 8 Try.underlying28 hi0 hz0 hz1 hz2 rfl (by decide) _ _ rfl HO.out [.int .i64 (P : Int)] rfl rfl (by simp [Value.oneCell']) (by omega) (by omega) hbz ?_)
      intro H' c' w6 hown6 hg6
      have HW := Lib.hid (show w6.ownsRow w.heap.size 3 1 (.slice H' (k + 1) c') (k + 1) ((own0 (k + 1)).map (Value.int .i64)) ∧ Below w.heap.size w w6 from ⟨by rw [HSU.out, List.map_append]; exact hown6, HBR.out.grown hg6 hbz (fun i hi => (HO.out.lt _ hi).1)⟩)
      clear hown6 hg6
      go_wp2
      go_roundw
      case rel => exact ⟨k + 1, H', c', by omega, by go_num, rfl, HW.out.1, HW.out.2⟩
      case measure => simp [intOf]; omega
    · have hkn : k = n := by omega
      subst hkn
      obtain ⟨g, rfl, hg1, hg2⟩ := own_some hown (by omega)
      obtain ⟨W0, hW0⟩ : ∃ W0, wr = W0 := ⟨_, rfl⟩
      subst hW0
      clear hown hbr hbz hg2
      go_wp2
      go_loopw [7] (fun i wr => ∃ j : Nat, j ≤ rs.length ∧ i = .int .i64 j ∧ wr.ownsRow w.heap.size 3 1 (.slice (some ⟨g, 0, none⟩) k cH) k ((kn k (rs.take j)).map (Value.int .i64)) ∧ Below w.heap.size w wr) (fun i _ => rs.length - (intOf i).toNat)
      case atStart => exact ⟨0, by omega, rfl, HO.out, HBR.out⟩
      case round =>
        obtain ⟨j, hj, rfl, hown, hbr⟩ := hrel
        clear HO HBR HPW
        have HBR := Lib.hid hbr
        have hbz := hbr.size
        have HO := Lib.hid hown
        by_cases hlt : j < rs.length
        · obtain ⟨b, o, R, c1, rfl, hb, hcell, hc1, ho⟩ := (HR.out.below hbr).open hlt
          obtain ⟨x, y, hxy, hx, hy, hne⟩ := callB_of (HV.out _ (List.getElem_mem hlt))
          have HTK := Lib.hid (show kn k (rs.take (j + 1)) = told (kn k (rs.take j)) x y by rw [kn_take hlt, hxy]; rfl)
          rw [hxy] at hcell ho
          obtain ⟨b', o', rfl, hb', hc'⟩ := ho.open (by simp)
          have q0 := ints_at hc' (show 0 < [(x : Int), (y : Int)].length by simp)
          have q1 := ints_at hc' (show 1 < [(x : Int), (y : Int)].length by simp)
          simp only [List.getElem_cons_zero, List.getElem_cons_succ, Nat.add_zero] at q0 q1
          rw [show ([(x : Int), (y : Int)]).length = 2 from rfl] at hcell
          have hS := kn_sets k (rs.take j)
          obtain ⟨r, hre⟩ : ∃ r, kn k (rs.take j) = r := ⟨_, rfl⟩
          rw [hre] at hS hown HTK HO
          have hxk : x < k := by omega
          have hyk : y < k := by omega
          obtain ⟨x0, x1⟩ := sets7 hS (by omega) x
          obtain ⟨y0, y1⟩ := sets7 hS (by omega) y
          have q2 := hown.cellAt x (by omega)
          have q3 := hown.cellAt y (by omega)
          have hlr := hS.1
          rw [map_getD (by omega)] at q2 q3
          have HTS := Lib.hid (fun X v (hX : Below wr.heap.size wr X) hv => told_store (w := X) (a := x) (b := y) (v := v) (own_keepC HO.out hX) hv)
          have HFR := Lib.hid (fun X (hX : Below wr.heap.size wr X) => (own_keepC HO.out hX).frozenAt)
          have HST1 := Lib.hid (fun X (v : Int) (hX : Below wr.heap.size wr X) => ((own_keepC HO.out hX).stored x (.int .i64 v)).1)
          have HQY := Lib.hid (fun v : Int => map_getD (r := r.set x v) (i := y) (by rw [List.length_set]; omega))
          obtain ⟨p, hp⟩ : ∃ p, r.getD x 0 = p := ⟨_, rfl⟩
          obtain ⟨q, hq⟩ : ∃ q, r.getD y 0 = q := ⟨_, rfl⟩
          rw [hp] at q2 x0 x1 HTS
          rw [hq] at q3 y0 y1 HTS
          have hor := orBits x0 x1 y0 y1
          obtain ⟨v, hv⟩ : ∃ v, orI p q = v := ⟨_, rfl⟩
          rw [hv] at hor HTS
          have hjI : (j : Int) < (rs.length : Int) := by omega
          have hj0 : (0 : Int) ≤ (j : Int) := by omega
          have hxI : (x : Int) < (k : Int) := by omega
          have hyI : (y : Int) < (k : Int) := by omega
          have hx0 : (0 : Int) ≤ (x : Int) := by omega
          have hy0 : (0 : Int) ≤ (y : Int) := by omega
          have hnb : b ≠ g := by omega
          have hnb' : b' ≠ g := by omega
          have HRL := Lib.hid hlr
          clear hre hown hp hq hv hS hc' ho hxy hlr hbr x0 x1 y0 y1 hne hc1
          go_wp2
          go_quiet (fail)
          have HX := Lib.hid (drewBelow wr nq)
          obtain ⟨W, hW⟩ : ∃ W, wr.drewN nq = W := ⟨_, rfl⟩
          rw [hW] at HX ⊢
          have q0' := cellKC HX.out (show b' < wr.heap.size by omega) q0
          have q1' := cellKC HX.out (show b' < wr.heap.size by omega) q1
          have hcell' := cellKC HX.out (show b < wr.heap.size by omega) hcell
          have hg2 : g < wr.heap.size := (HO.out.lt g rfl).2
          have q2' := cellKC HX.out hg2 q2
          have q3' := cellKC HX.out hg2 q3
          have f1 := HFR.out W HX.out x
          have HT2 := Lib.hid (HTS.out W v HX.out rfl)
          have hst := HST1.out W v HX.out
          have f2 := hst.frozenAt y
          have q4 := hst.cellAt y (by omega)
          rw [← List.map_set, HQY.out] at q4
          obtain ⟨y4, hy4⟩ : ∃ y4, (r.set x v).getD y 0 = y4 := ⟨_, rfl⟩
          rw [hy4] at q4
          have d0 := cellOC (s := x) (v := .int .i64 v) hnb' q0'
          have d1 := cellOC (s := x) (v := .int .i64 v) hnb' q1'
          have d2 := cellOC (s := x) (v := .int .i64 v) hnb hcell'
          obtain ⟨W2, hW2⟩ : ∃ W2, W.setCell ⟨g, x, none⟩ (.int .i64 v) = W2 := ⟨_, rfl⟩
          rw [hW2] at d0 d1 d2 q4 f2 HT2
          have HFIN := Lib.hid (show Below w.heap.size w (W2.setCell ⟨g, y, none⟩ (.int .i64 v)) from (HBR.out.trans (HX.out.mono hbz)).grown HT2.out.2 (Nat.le_trans hbz HX.out.size) (fun i hi => by injection hi with hi; omega))
          clear hW hst hy4 q0 q1 q2 q3 hcell hnb hnb'
          go_wp2
          go_roundw
          case rel => exact ⟨j + 1, by omega, by go_num, by rw [HTK.out]; exact HT2.out.1, HFIN.out⟩
          case measure => simp [intOf]; omega
        · have hje : j = rs.length := by omega
          subst hje
          have HF := Lib.hid hown
          clear hown hbr
          go_wp2
          go_ret
          exact ⟨cH, g, rfl, by have := HF.out; rw [List.take_length] at this; exact this, HBR.out⟩
end Go.Proofs.Ytonnffilcmlodaa
