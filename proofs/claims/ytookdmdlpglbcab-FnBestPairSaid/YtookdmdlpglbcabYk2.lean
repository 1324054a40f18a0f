/- Stamps and how many that are drawn. No condition. -/
import Derived.Test.YtookdmdlpglbcabYk
namespace Go.Proofs.Ytookdmdlpglbcab
open Go.RowKit

set_option maxRecDepth 100000 in
set_option maxHeartbeats 1000000 in
theorem drawReachOf_any (A : Option Addr) (c : Nat) (zs : List Int) (w : World) (hr : Own w 0 w.heap.size A (zs.map (Value.int .u8))) (hx : zs.length ≤ c ∧ c ≤ maxLen ∧ ∀ z ∈ zs, (Lit.int .u8 z).wf = true) :
    Calls Try.prog 20 #[.slice A zs.length c] w (Draw2 0 7 w) := by
  have H := Lib.hid hx
  clear hx
  go_enter Try.func20, Try.ntmps20
  go_wp2_with fail
  refine (newReader_any _ _ _ _ hr H.out).mono ?_
  rintro e v0 ⟨rfl, hrd, hb1⟩
  have hz0 := hrd.lt
  go_wp2_with fail
  refine (someStamps_any _ 0 _ hrd (by omega)).mono ?_
  rintro e v1 ⟨A2, c2, rs, rfl, h6, hc, hs, ho, ⟨q, hq, hrd1⟩, hg⟩
  have HO := Lib.hid (And.intro ho (And.intro hg hs))
  have hz1 := hrd1.lt
  clear ho hg hs
  go_wp2_with fail
  refine (one_lit _ _ v1 hrd1 (by omega) [2, 3, 1, 4, 6, 0, 7] (by decide) (by decide) 7 rfl _ rfl).mono ?_
  rintro e v5 ⟨x, rfl, hx, hrd5, hg5⟩
  have hxb : 0 ≤ x ∧ x ≤ 7 := by simp at hx; omega
  have HX := Lib.hid hxb
  have HGG := Lib.hid hg5
  clear hx hxb hg5 hrd5 hrd1
  have hfin : Ints v5 v5.heap.size A2 rs := (own_read HO.out.1 hz0 HGG.out).row
  have HF := Lib.hid hfin
  clear hfin
  go_wp2_with fail
  go_ret2
  exact ⟨A2, c2, rs, x, rfl, HX.out, h6, hc, HO.out.2.2, HF.out, (hb1.grown HO.out.2.1 hb1.size (fun k hk => by injection hk with hk; omega)).grown HGG.out (Nat.le_trans hb1.size HO.out.2.1.size) (fun k hk => by injection hk with hk; omega)⟩

set_option maxRecDepth 100000 in
theorem drawBestPair_any (A : Option Addr) (c : Nat) (zs : List Int) (w : World) (hr : Own w 0 w.heap.size A (zs.map (Value.int .u8))) (hx : zs.length ≤ c ∧ c ≤ maxLen ∧ ∀ z ∈ zs, (Lit.int .u8 z).wf = true) :
    Calls Try.prog 23 #[.slice A zs.length c] w fun e w' => ∃ x : Int, e = .returned (.int .i64 x) ∧ (0 ≤ x ∧ x ≤ 7) ∧ Below w.heap.size w w' := by
  have H := Lib.hid hx
  clear hx
  go_enter Try.func23, Try.ntmps23
  go_wp2_with fail
  refine (newReader_any _ _ _ _ hr H.out).mono ?_
  rintro e v0 ⟨rfl, hrd, hb1⟩
  have hz0 := hrd.lt
  go_wp2_with fail
  refine (one_lit _ _ v0 hrd (by omega) [2, 3, 1, 4, 5, 6, 0, 7] (by decide) (by decide) 8 rfl _ rfl).mono ?_
  rintro e v5 ⟨x, rfl, hx, hrd5, hg5⟩
  have hxb : 0 ≤ x ∧ x ≤ 7 := by simp at hx; omega
  have HX := Lib.hid hxb
  have HG := Lib.hid hg5
  clear hx hxb hg5 hrd5 hrd
  go_wp2_with fail
  go_ret
  exact ⟨x, rfl, HX.out, hb1.grown HG.out hb1.size (fun k hk => by injection hk with hk; omega)⟩
end Go.Proofs.Ytookdmdlpglbcab
