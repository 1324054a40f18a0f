/- Draws of a hub, and of two zones. No condition. -/
import Derived.Test.YtmbpcilgjolaeaaUg
namespace Go.Proofs.Ytmbpcilgjolaeaa
open Go.RowKit

def DrHE (w : World) (e : Ending) (w' : World) : Prop := ∃ (A : Option Addr) (c : Nat) (rs : List (List Int)) (h : Int), e = .returned (.tuple #[.slice A rs.length c, .int .i64 h]) ∧ (-1 ≤ h ∧ h ≤ 5) ∧ DrR w A c rs w'
set_option maxRecDepth 100000 in
set_option maxHeartbeats 2000000 in
theorem drawHubCost_any (A : Option Addr) (c : Nat) (zs : List Int) (w : World) (hr : Own w 0 w.heap.size A (zs.map (Value.int .u8))) (hx : zs.length ≤ c ∧ c ≤ maxLen ∧ ∀ z ∈ zs, (Lit.int .u8 z).wf = true) :
    Calls Try.prog 42 #[.slice A zs.length c] w (DrHE w) := by
  have H := Lib.hid hx
  clear hx
  go_enter Try.func42, Try.ntmps42
  go_wp2_with fail
  refine (newReader_any _ _ _ _ hr H.out).mono ?_
  rintro e w1 ⟨rfl, hrd, hb1⟩
  have hz1 := hb1.size
  have hlt := hrd.lt
  go_wp2_with fail
  refine (someRates_any _ 0 _ hrd (by omega)).mono ?_
  rintro e w2 ⟨A2, c2, rs, rfl, ⟨h1, h6⟩, hc, htw, hm, ⟨q, hq, hrd2⟩, hg⟩
  have HM := Lib.hid hm
  have HTW := Lib.hid htw
  have HG := Lib.hid hg
  clear hm htw hg hrd
  go_wp2_with fail
  refine (pick_any _ q (rs.length : Int) _ hrd2 (by omega) (by omega)).mono ?_
  rintro e w3 ⟨k, rfl, hk, hrd3, hg3⟩
  have hk0 := hk.1
  have hk1 := hk.2 (by omega)
  have HG3 := Lib.hid hg3
  clear hk hg3
  go_wp2_with fail
  refine (one_lit _ _ w3 hrd3 (by omega) [0, k, 1, 5, -1] (by simp) (by simp) 5 rfl _ rfl).mono ?_
  rintro e w4 ⟨h, rfl, hh, hrd4, hg4⟩
  have hhb : -1 ≤ h ∧ h ≤ 5 := by simp at hh; omega
  have hgg := grown_trans HG3.out hg4
  have hm4 := (HM.out.apart (Nat.le_refl _) hgg (fun i hi => by injection hi with hi; omega)).more hgg.size
  have HF := Lib.hid (And.intro hm4.row (hb1.grown (grown_trans HG.out hgg) hz1 (fun k hk => by injection hk with hk; omega)))
  have HHB := Lib.hid hhb
  clear hh hrd4 hg4 hgg hm4 hhb
  go_wp2_with fail
  go_ret2
  exact ⟨A2, c2, rs, h, rfl, HHB.out, ⟨h1, h6⟩, hc, fun r hr => by have := HTW.out r hr; omega, HF.out.1, HF.out.2⟩

def DrCE (w : World) (e : Ending) (w' : World) : Prop := ∃ (A : Option Addr) (c : Nat) (rs : List (List Int)) (i k : Int), e = .returned (.tuple #[.slice A rs.length c, .int .i64 i, .int .i64 k]) ∧ ((-1 ≤ i ∧ i ≤ 5) ∧ (-1 ≤ k ∧ k ≤ 5)) ∧ DrR w A c rs w'
set_option maxRecDepth 100000 in
set_option maxHeartbeats 2000000 in
theorem drawChainOf_any (A : Option Addr) (c : Nat) (zs : List Int) (w : World) (hr : Own w 0 w.heap.size A (zs.map (Value.int .u8))) (hx : zs.length ≤ c ∧ c ≤ maxLen ∧ ∀ z ∈ zs, (Lit.int .u8 z).wf = true) :
    Calls Try.prog 39 #[.slice A zs.length c] w (DrCE w) := by
  have H := Lib.hid hx
  clear hx
  go_enter Try.func39, Try.ntmps39
  go_wp2_with fail
  refine (newReader_any _ _ _ _ hr H.out).mono ?_
  rintro e w1 ⟨rfl, hrd, hb1⟩
  have hz1 := hb1.size
  have hlt := hrd.lt
  go_wp2_with fail
  refine (someRates_any _ 0 _ hrd (by omega)).mono ?_
  rintro e w2 ⟨A2, c2, rs, rfl, ⟨h1, h6⟩, hc, htw, hm, ⟨q, hq, hrd2⟩, hg⟩
  have HM := Lib.hid hm
  have HTW := Lib.hid htw
  have HG := Lib.hid hg
  clear hm htw hg hrd
  go_wp2_with fail
  refine (pick_any _ q (rs.length : Int) _ hrd2 (by omega) (by omega)).mono ?_
  rintro e w3 ⟨k, rfl, hk, hrd3, hg3⟩
  have hk0 := hk.1
  have hk1 := hk.2 (by omega)
  have HG3 := Lib.hid hg3
  clear hk hg3
  go_wp2_with fail
  refine (one_lit _ _ w3 hrd3 (by omega) [0, k, 1, -1] (by simp) (by simp) 4 rfl _ rfl).mono ?_
  rintro e w4 ⟨i, rfl, hi, hrd4, hg4⟩
  have hib : -1 ≤ i ∧ i ≤ 5 := by simp at hi; omega
  have HIB := Lib.hid hib
  have HG4 := Lib.hid (grown_trans HG3.out hg4)
  clear hi hg4 hib
  go_wp2_with fail
  refine (pick_any _ _ (rs.length : Int) _ hrd4 (by omega) (by omega)).mono ?_
  rintro e w5 ⟨m, rfl, hm, hrd5, hg5⟩
  have hm0 := hm.1
  have hm1 := hm.2 (by omega)
  have HG5 := Lib.hid (grown_trans HG4.out hg5)
  clear hm hg5
  go_wp2_with fail
  refine (one_lit _ _ w5 hrd5 (by omega) [m, 1, 0, 5] (by simp) (by simp) 4 rfl _ rfl).mono ?_
  rintro e w6 ⟨j, rfl, hj, hrd6, hg6⟩
  have hjb : -1 ≤ j ∧ j ≤ 5 := by simp at hj; omega
  have hgg := grown_trans HG5.out hg6
  have hm4 := (HM.out.apart (Nat.le_refl _) hgg (fun i hi => by injection hi with hi; omega)).more hgg.size
  have HF := Lib.hid (And.intro hm4.row (hb1.grown (grown_trans HG.out hgg) hz1 (fun k hk => by injection hk with hk; omega)))
  have HJB := Lib.hid hjb
  clear hj hrd6 hg6 hgg hm4 hjb
  go_wp2_with fail
  go_ret3
  exact ⟨A2, c2, rs, i, j, rfl, ⟨HIB.out, HJB.out⟩, ⟨h1, h6⟩, hc, fun r hr => by have := HTW.out r hr; omega, HF.out.1, HF.out.2⟩
end Go.Proofs.Ytmbpcilgjolaeaa
