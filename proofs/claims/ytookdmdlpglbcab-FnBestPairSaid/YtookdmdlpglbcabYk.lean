/- Stamps that are drawn: the laws' arguments. No condition. -/
import Derived.Test.YtookdmdlpglbcabYj
import Derived.Test.YtookdmdlpglbcabEx
namespace Go.Proofs.Ytookdmdlpglbcab
open Go.RowKit

theorem own_read {v v' : World} {g b0 : Nat} {A : Option Addr} {xs : List Value} (h : Own v (b0 + 1) v.heap.size A xs) (hg : g < b0) (hgr : v.grownBy v' (some g)) : Own v' (b0 + 1) v'.heap.size A xs := by
  rcases h with h | ⟨b, o, rfl, h0, hlt, hc, hf⟩
  · exact .inl h
  · have h : Own v (b0 + 1) v.heap.size (some ⟨b, o, none⟩) xs := .inr ⟨b, o, rfl, h0, hlt, hc, hf⟩
    exact (h.grown (Nat.le_refl _) hgr (fun b' o' e => by injection e with e; injection e with e1; omega)).more hgr.size
def DrawnS (w : World) (A : Option Addr) (c : Nat) (zs : List Int) (w' : World) : Prop :=
  zs.length ≤ 5 ∧ zs.length ≤ c ∧ small zs ∧ Ints w' w'.heap.size A zs ∧ Below w.heap.size w w'
def Draw1 (w : World) (e : Ending) (w' : World) : Prop := ∃ (A : Option Addr) (c : Nat) (zs : List Int), e = .returned (.slice A zs.length c) ∧ DrawnS w A c zs w'
def Draw2 (lo hi : Int) (w : World) (e : Ending) (w' : World) : Prop := ∃ (A : Option Addr) (c : Nat) (zs : List Int) (x : Int), e = .returned (.tuple #[.slice A zs.length c, .int .i64 x]) ∧ (lo ≤ x ∧ x ≤ hi) ∧ DrawnS w A c zs w'

set_option maxRecDepth 100000 in
theorem drawFirstWaste_any (A : Option Addr) (c : Nat) (zs : List Int) (w : World) (hr : Own w 0 w.heap.size A (zs.map (Value.int .u8))) (hx : zs.length ≤ c ∧ c ≤ maxLen ∧ ∀ z ∈ zs, (Lit.int .u8 z).wf = true) :
    Calls Try.prog 18 #[.slice A zs.length c] w (Draw1 w) := by
  have H := Lib.hid hx
  clear hx
  go_enter Try.func18, Try.ntmps18
  go_wp2_with fail
  refine (newReader_any _ _ _ _ hr H.out).mono ?_
  rintro e w1 ⟨rfl, hrd, hb1⟩
  go_wp2_with fail
  refine (someStamps_any _ 0 _ hrd (by omega)).mono ?_
  rintro e w2 ⟨A2, c2, rs, rfl, h6, hc, hs, ho, _, hg⟩
  go_wp2_with fail
  go_ret
  exact ⟨A2, c2, rs, rfl, h6, hc, hs, ho.row, hb1.grown hg hb1.size (fun k hk => by injection hk with hk; omega)⟩

set_option maxRecDepth 100000 in
theorem drawNotPaid_any (A : Option Addr) (c : Nat) (zs : List Int) (w : World) (hr : Own w 0 w.heap.size A (zs.map (Value.int .u8))) (hx : zs.length ≤ c ∧ c ≤ maxLen ∧ ∀ z ∈ zs, (Lit.int .u8 z).wf = true) :
    Calls Try.prog 27 #[.slice A zs.length c] w (Draw1 w) := by
  have H := Lib.hid hx
  clear hx
  go_enter Try.func27, Try.ntmps27
  go_wp2_with fail
  refine (newReader_any _ _ _ _ hr H.out).mono ?_
  rintro e w1 ⟨rfl, hrd, hb1⟩
  go_wp2_with fail
  refine (someStamps_any _ 0 _ hrd (by omega)).mono ?_
  rintro e w2 ⟨A2, c2, rs, rfl, h6, hc, hs, ho, _, hg⟩
  go_wp2_with fail
  go_ret
  exact ⟨A2, c2, rs, rfl, h6, hc, hs, ho.row, hb1.grown hg hb1.size (fun k hk => by injection hk with hk; omega)⟩

set_option maxRecDepth 100000 in
set_option maxHeartbeats 1000000 in
theorem drawFewestStamps_any (A : Option Addr) (c : Nat) (zs : List Int) (w : World) (hr : Own w 0 w.heap.size A (zs.map (Value.int .u8))) (hx : zs.length ≤ c ∧ c ≤ maxLen ∧ ∀ z ∈ zs, (Lit.int .u8 z).wf = true) :
    Calls Try.prog 11 #[.slice A zs.length c] w (Draw2 (-1) 141 w) := by
  have H := Lib.hid hx
  clear hx
  go_enter Try.func11, Try.ntmps11
  go_wp2_with fail
  refine (newReader_any _ _ _ _ hr H.out).mono ?_
  rintro e v0 ⟨rfl, hrd, hb1⟩
  have hz0 := hrd.lt
  go_wp2_with fail
  refine (someStamps_any _ 0 _ hrd (by omega)).mono ?_
  rintro e v1 ⟨A2, c2, rs, rfl, h6, hc, hs, ho, ⟨q, hq, hrd1⟩, hg⟩
  have HO := Lib.hid (And.intro ho (And.intro hg hs))
  have hz1 := hrd1.lt
  clear ho hg hs
  go_wp2_with fail
  refine (pick_any _ q 30 v1 hrd1 (by omega) (by omega)).mono ?_
  rintro e v2 ⟨x1, rfl, hx1, hrd2, hg2⟩
  have hxb1 : 0 ≤ x1 ∧ x1 < 30 := ⟨hx1.1, hx1.2 (by omega)⟩
  clear hx1
  go_wp2_with fail
  refine (pick_any _ _ 30 v2 hrd2 (by omega) (by omega)).mono ?_
  rintro e v3 ⟨x2, rfl, hx2, hrd3, hg3⟩
  have hxb2 : 0 ≤ x2 ∧ x2 < 30 := ⟨hx2.1, hx2.2 (by omega)⟩
  clear hx2
  go_wp2_with fail
  refine (pick_any _ _ 140 v3 hrd3 (by omega) (by omega)).mono ?_
  rintro e v4 ⟨x3, rfl, hx3, hrd4, hg4⟩
  have hxb3 : 0 ≤ x3 ∧ x3 < 140 := ⟨hx3.1, hx3.2 (by omega)⟩
  clear hx3
  have HG := Lib.hid (grown_trans hg2 (grown_trans hg3 hg4))
  have HXB := Lib.hid (And.intro hxb1 (And.intro hxb2 hxb3))
  clear hg2 hg3 hg4 hxb1 hxb2 hxb3 hrd1 hrd2 hrd3
  go_wp2_with fail
  refine (one_lit _ _ v4 hrd4 (by omega) [x1, x2, x3, 0, 140, 141, -1] (by simp) (by simp) 7 rfl _ (by simp)).mono ?_
  rintro e v5 ⟨x, rfl, hx, hrd5, hg5⟩
  have hxb : -1 ≤ x ∧ x ≤ 141 := by have := HXB.out; simp at hx; omega
  have HX := Lib.hid hxb
  have HGG := Lib.hid (grown_trans HG.out hg5)
  clear hx hxb hg5 hrd4 hrd5
  have hfin : Ints v5 v5.heap.size A2 rs := (own_read HO.out.1 hz0 HGG.out).row
  have HF := Lib.hid hfin
  clear hfin
  go_wp2_with fail
  go_ret2
  exact ⟨A2, c2, rs, x, rfl, HX.out, h6, hc, HO.out.2.2, HF.out, (hb1.grown HO.out.2.1 hb1.size (fun k hk => by injection hk with hk; omega)).grown HGG.out (Nat.le_trans hb1.size HO.out.2.1.size) (fun k hk => by injection hk with hk; omega)⟩

set_option maxRecDepth 100000 in
set_option maxHeartbeats 1000000 in
theorem drawGreedyStamps_any (A : Option Addr) (c : Nat) (zs : List Int) (w : World) (hr : Own w 0 w.heap.size A (zs.map (Value.int .u8))) (hx : zs.length ≤ c ∧ c ≤ maxLen ∧ ∀ z ∈ zs, (Lit.int .u8 z).wf = true) :
    Calls Try.prog 14 #[.slice A zs.length c] w (Draw2 (-1) 141 w) := by
  have H := Lib.hid hx
  clear hx
  go_enter Try.func14, Try.ntmps14
  go_wp2_with fail
  refine (newReader_any _ _ _ _ hr H.out).mono ?_
  rintro e v0 ⟨rfl, hrd, hb1⟩
  have hz0 := hrd.lt
  go_wp2_with fail
  refine (someStamps_any _ 0 _ hrd (by omega)).mono ?_
  rintro e v1 ⟨A2, c2, rs, rfl, h6, hc, hs, ho, ⟨q, hq, hrd1⟩, hg⟩
  have HO := Lib.hid (And.intro ho (And.intro hg hs))
  have hz1 := hrd1.lt
  clear ho hg hs
  go_wp2_with fail
  refine (pick_any _ q 30 v1 hrd1 (by omega) (by omega)).mono ?_
  rintro e v2 ⟨x1, rfl, hx1, hrd2, hg2⟩
  have hxb1 : 0 ≤ x1 ∧ x1 < 30 := ⟨hx1.1, hx1.2 (by omega)⟩
  clear hx1
  go_wp2_with fail
  refine (pick_any _ _ 30 v2 hrd2 (by omega) (by omega)).mono ?_
  rintro e v3 ⟨x2, rfl, hx2, hrd3, hg3⟩
  have hxb2 : 0 ≤ x2 ∧ x2 < 30 := ⟨hx2.1, hx2.2 (by omega)⟩
  clear hx2
  go_wp2_with fail
  refine (pick_any _ _ 140 v3 hrd3 (by omega) (by omega)).mono ?_
  rintro e v4 ⟨x3, rfl, hx3, hrd4, hg4⟩
  have hxb3 : 0 ≤ x3 ∧ x3 < 140 := ⟨hx3.1, hx3.2 (by omega)⟩
  clear hx3
  have HG := Lib.hid (grown_trans hg2 (grown_trans hg3 hg4))
  have HXB := Lib.hid (And.intro hxb1 (And.intro hxb2 hxb3))
  clear hg2 hg3 hg4 hxb1 hxb2 hxb3 hrd1 hrd2 hrd3
  go_wp2_with fail
  refine (one_lit _ _ v4 hrd4 (by omega) [x1, x2, x3, 0, 140, 141, -1] (by simp) (by simp) 7 rfl _ (by simp)).mono ?_
  rintro e v5 ⟨x, rfl, hx, hrd5, hg5⟩
  have hxb : -1 ≤ x ∧ x ≤ 141 := by have := HXB.out; simp at hx; omega
  have HX := Lib.hid hxb
  have HGG := Lib.hid (grown_trans HG.out hg5)
  clear hx hxb hg5 hrd4 hrd5
  have hfin : Ints v5 v5.heap.size A2 rs := (own_read HO.out.1 hz0 HGG.out).row
  have HF := Lib.hid hfin
  clear hfin
  go_wp2_with fail
  go_ret2
  exact ⟨A2, c2, rs, x, rfl, HX.out, h6, hc, HO.out.2.2, HF.out, (hb1.grown HO.out.2.1 hb1.size (fun k hk => by injection hk with hk; omega)).grown HGG.out (Nat.le_trans hb1.size HO.out.2.1.size) (fun k hk => by injection hk with hk; omega)⟩
end Go.Proofs.Ytookdmdlpglbcab
