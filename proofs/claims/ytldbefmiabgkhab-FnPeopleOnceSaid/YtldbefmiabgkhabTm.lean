/- Draws of groups. No condition. -/
import Derived.Test.YtldbefmiabgkhabTl
import Derived.Test.YtldbefmiabgkhabEx
namespace Go.Proofs.Ytldbefmiabgkhab
open Go.RowKit

/-- What is drawn. -/
def DrG (w : World) (A : Option Addr) (c : Nat) (rs : List (List Int)) (w' : World) : Prop :=
  rs.length ≤ 5 ∧ rs.length ≤ c ∧ Four rs ∧ Grid w' 0 w'.heap.size A rs ∧ Below w.heap.size w w'

set_option maxRecDepth 100000 in
theorem drawLoopsOf_any (A : Option Addr) (c : Nat) (zs : List Int) (w : World) (hr : Own w 0 w.heap.size A (zs.map (Value.int .u8))) (hx : zs.length ≤ c ∧ c ≤ maxLen ∧ ∀ z ∈ zs, (Lit.int .u8 z).wf = true) :
    Calls Try.prog 25 #[.slice A zs.length c] w fun e w' => ∃ (A : Option Addr) (c : Nat) (rs : List (List Int)), e = .returned (.slice A rs.length c) ∧ DrG w A c rs w' := by
  have H := Lib.hid hx
  clear hx
  go_enter Try.func25, Try.ntmps25
  go_wp2_with fail
  refine (newReader_any _ _ _ _ hr H.out).mono ?_
  rintro e w1 ⟨rfl, hrd, hb1⟩
  go_wp2_with fail
  refine (someGroups_any _ 0 _ hrd (by omega)).mono ?_
  rintro e w2 ⟨A2, c2, rs, rfl, h6, hc, htw, hm, _, hg⟩
  go_wp2_with fail
  go_ret
  exact ⟨A2, c2, rs, rfl, h6, hc, htw, hm.row, hb1.grown hg hb1.size (fun k hk => by injection hk with hk; omega)⟩

set_option maxRecDepth 100000 in
theorem drawPeopleOf_any (A : Option Addr) (c : Nat) (zs : List Int) (w : World) (hr : Own w 0 w.heap.size A (zs.map (Value.int .u8))) (hx : zs.length ≤ c ∧ c ≤ maxLen ∧ ∀ z ∈ zs, (Lit.int .u8 z).wf = true) :
    Calls Try.prog 19 #[.slice A zs.length c] w fun e w' => ∃ (A : Option Addr) (c : Nat) (rs : List (List Int)) (x : Int), e = .returned (.tuple #[.slice A rs.length c, .int .i64 x]) ∧ (-1 ≤ x ∧ x ≤ 9) ∧ DrG w A c rs w' := by
  have H := Lib.hid hx
  clear hx
  go_enter Try.func19, Try.ntmps19
  go_wp2_with fail
  refine (newReader_any _ _ _ _ hr H.out).mono ?_
  rintro e w1 ⟨rfl, hrd, hb1⟩
  go_wp2_with fail
  refine (someGroups_any _ 0 _ hrd (by omega)).mono ?_
  rintro e w2 ⟨A2, c2, rs, rfl, h6, hc, htw, hm, ⟨q, hq, hrd2⟩, hg⟩
  have HTW := Lib.hid htw
  have HM := Lib.hid hm
  have HG := Lib.hid hg
  have hz1 := hrd.lt
  clear htw hm hg
  go_wp2_with fail
  refine (one_lit _ q w2 hrd2 (by omega) [0, 1, 2, 6, 8, 9, -1] (by decide) (by decide) 7 rfl _ rfl).mono ?_
  rintro e w3 ⟨x, rfl, hx, _, hg3⟩
  have hxb : -1 ≤ x ∧ x ≤ 9 := by simp at hx; omega
  have HF := Lib.hid (show DrG w A2 c2 rs w3 from ⟨h6, hc, HTW.out, ((HM.out.apart (Nat.le_refl _) hg3 (fun i hi => by injection hi with hi; omega)).more hg3.size).row, hb1.grown (grown_trans HG.out hg3) hb1.size (fun k hk => by injection hk with hk; omega)⟩)
  have HXB := Lib.hid hxb
  clear hx hg3 hxb
  go_wp2_with fail
  go_ret2
  exact ⟨A2, c2, rs, x, rfl, HXB.out, HF.out⟩
end Go.Proofs.Ytldbefmiabgkhab
