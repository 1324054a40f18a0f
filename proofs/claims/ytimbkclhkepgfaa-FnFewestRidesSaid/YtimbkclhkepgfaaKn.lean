/- Trips that are drawn. No condition. -/
import Derived.Test.YtimbkclhkepgfaaKm
import Derived.Test.YtimbkclhkepgfaaK4
import Derived.Test.YtimbkclhkepgfaaEx
import Derived.Test.YtimbkclhkepgfaaH8g
namespace Go.Proofs.Ytimbkclhkepgfaa
open Go.RowKit

def DrawnC (w : World) (A : Option Addr) (c : Nat) (rs : List (List Int)) (w' : World) : Prop :=
  rs.length ≤ 10 ∧ rs.length ≤ c ∧ Lens 4 rs ∧ Grid w' 0 w'.heap.size A rs ∧ Below w.heap.size w w'

set_option maxRecDepth 100000 in
set_option maxHeartbeats 1000000 in
theorem drawFR_any (A : Option Addr) (c : Nat) (zs : List Int) (w : World) (hr : Own w 0 w.heap.size A (zs.map (Value.int .u8))) (hx : zs.length ≤ c ∧ c ≤ maxLen ∧ ∀ z ∈ zs, (Lit.int .u8 z).wf = true) :
    Calls Try.prog 5 #[.slice A zs.length c] w fun e w' => ∃ (A : Option Addr) (c : Nat) (rs : List (List Int)) (x0 x1 x2 : Int), e = .returned (.tuple #[.slice A rs.length c, .int .i64 x0, .int .i64 x1, .int .i64 x2]) ∧ ((-1 ≤ x0 ∧ x0 ≤ 5) ∧ (-1 ≤ x1 ∧ x1 ≤ 61) ∧ (-1 ≤ x2 ∧ x2 ≤ 5)) ∧ DrawnC w A c rs w' := by
  have H := Lib.hid hx
  clear hx
  go_enter Try.func5, Try.ntmps5
  go_wp2_with fail
  refine (newReader_any _ _ _ _ hr H.out).mono ?_
  rintro e v0 ⟨rfl, hrd, hb1⟩
  go_wp2_with fail
  refine (someCoaches_any _ 0 _ hrd (by omega)).mono ?_
  rintro e v1 ⟨A2, c2, rs, rfl, h6, hc, htw, hm, ⟨q, hq, hrd1⟩, hg⟩
  have HTW := Lib.hid htw
  have HM1 := Lib.hid hm
  have HG1 := Lib.hid hg
  have hz1 := hrd.lt
  clear htw hm hg
  go_wp2_with fail
  refine (one_lit _ _ v1 hrd1 (by omega) [0, 1, 2, 4, 5, -1] (by decide) (by decide) 6 rfl _ rfl).mono ?_
  rintro e v2 ⟨x0, rfl, hx0, hrd2, hg2⟩
  have hxb0 : -1 ≤ x0 ∧ x0 ≤ 5 := by simp at hx0; omega
  have HXB0 := Lib.hid hxb0
  have HM2 := Lib.hid ((HM1.out.apart (Nat.le_refl _) hg2 (fun i hi => by injection hi with hi; omega)).more hg2.size)
  have HG2 := Lib.hid (grown_trans HG1.out hg2)
  clear hx0 hxb0 hg2
  go_wp2_with fail
  refine (one_lit _ _ v2 hrd2 (by omega) [0, 3, 8, 20, 60, 61, -1] (by decide) (by decide) 7 rfl _ rfl).mono ?_
  rintro e v3 ⟨x1, rfl, hx1, hrd3, hg3⟩
  have hxb1 : -1 ≤ x1 ∧ x1 ≤ 61 := by simp at hx1; omega
  have HXB1 := Lib.hid hxb1
  have HM3 := Lib.hid ((HM2.out.apart (Nat.le_refl _) hg3 (fun i hi => by injection hi with hi; omega)).more hg3.size)
  have HG3 := Lib.hid (grown_trans HG2.out hg3)
  clear hx1 hxb1 hg3
  go_wp2_with fail
  refine (one_lit _ _ v3 hrd3 (by omega) [3, 1, 0, 2, 4, 5, -1] (by decide) (by decide) 7 rfl _ rfl).mono ?_
  rintro e v4 ⟨x2, rfl, hx2, hrd4, hg4⟩
  have hxb2 : -1 ≤ x2 ∧ x2 ≤ 5 := by simp at hx2; omega
  have HXB2 := Lib.hid hxb2
  have HM4 := Lib.hid ((HM3.out.apart (Nat.le_refl _) hg4 (fun i hi => by injection hi with hi; omega)).more hg4.size)
  have HG4 := Lib.hid (grown_trans HG3.out hg4)
  clear hx2 hxb2 hg4
  have HF := Lib.hid (show DrawnC w A2 c2 rs v4 from ⟨h6, hc, HTW.out, HM4.out.row, hb1.grown HG4.out hb1.size (fun k hk => by injection hk with hk; omega)⟩)
  go_wp2_with fail
  exact bodyPost_ret (v := .tuple #[.slice A2 rs.length c2, .int .i64 x0, .int .i64 x1, .int .i64 x2]) (by simp [results, Try.results5, go_sem]) rfl ⟨A2, c2, rs, x0, x1, x2, rfl, ⟨HXB0.out, HXB1.out, HXB2.out⟩, HF.out⟩
end Go.Proofs.Ytimbkclhkepgfaa
