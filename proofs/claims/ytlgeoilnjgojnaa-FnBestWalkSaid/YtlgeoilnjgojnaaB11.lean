/- BestWalk, spec; its drawn arguments. No condition. -/
import Derived.Test.YtlgeoilnjgojnaaB10
import Derived.Test.YtlgeoilnjgojnaaB8
namespace Go.Proofs.Ytlgeoilnjgojnaa
open Go.RowKit

set_option maxRecDepth 100000 in
set_option maxHeartbeats 1000000 in
theorem specBest_any (A : Option Addr) (c : Nat) (rs : List (List Int)) (x : Int) (w : World) (hr : Grid w 0 w.heap.size A rs) (hl : rs.length ≤ 1000000000) (hs : ∀ r ∈ rs, r.length ≤ 1000000000) :
    Calls Try.prog 13 #[.slice A rs.length c, .int .i64 x] w fun e w' => e = .returned (.int .i64 (leastV rs x)) ∧ Below w.heap.size w w' := by
  by_cases hv : (housesB rs && inR x 0 20) = true
  · simp only [Bool.and_eq_true] at hv
    exact specBest_yes A c rs x w hr hl hs hv.1 hv.2
  · have hv' : (housesB rs && inR x 0 20) = false := by simpa using hv
    have h := validStreet_any A c rs x w hr hl hs
    rw [hv'] at h
    have H := Lib.hid h
    have HV := Lib.hid (leastV_no hv')
    clear h hs hv hv'
    go_enter Try.func13, Try.ntmps13
    go_wp2_with (go_at_call 44; ((with_reducible refine H.out.mono ?_); rintro e w' ⟨rfl, rfl⟩))
    go_ret
    exact ⟨ret_int HV.out.symm, Below.refl _ _⟩
theorem specBest_b (A : Option Addr) (c : Nat) (rs : List (List Int)) (x : Int) (w : World) (hr : Grid w 0 w.heap.size A rs) (hl : rs.length ≤ 1048576) (hs : ∀ r ∈ rs, r.length ≤ 1000000000) :
    Calls Try.prog 13 #[.slice A rs.length c, .int .i64 x] w fun e w' => e = .returned (.int .i64 (leastV rs x)) ∧ Below w.heap.size w w' := specBest_any A c rs x w hr (by omega) hs
set_option maxRecDepth 100000 in
theorem drawBestWalk_any (A : Option Addr) (c : Nat) (zs : List Int) (w : World) (hr : Own w 0 w.heap.size A (zs.map (Value.int .u8))) (hx : zs.length ≤ c ∧ c ≤ maxLen ∧ ∀ z ∈ zs, (Lit.int .u8 z).wf = true) :
    Calls Try.prog 17 #[.slice A zs.length c] w fun e w' => ∃ (A : Option Addr) (c : Nat) (rs : List (List Int)) (x : Int), e = .returned (.tuple #[.slice A rs.length c, .int .i64 x]) ∧ (-1 ≤ x ∧ x ≤ 21) ∧ Drawn w A c rs w' := by
  have H := Lib.hid hx
  clear hx
  go_enter Try.func17, Try.ntmps17
  go_wp2_with fail
  refine (newReader_any _ _ _ _ hr H.out).mono ?_
  rintro e w1 ⟨rfl, hrd, hb1⟩
  go_wp2_with fail
  refine (someHouses_any _ 0 _ hrd (by omega)).mono ?_
  rintro e w2 ⟨A2, c2, rs, rfl, h6, hc, htw, hm, ⟨q, hq, hrd2⟩, hg⟩
  have HTW := Lib.hid htw
  have HM := Lib.hid hm
  have HG := Lib.hid hg
  have hz1 := hrd.lt
  clear htw hm hg
  go_wp2_with fail
  refine (one_lit _ q w2 hrd2 (by omega) [3, 1, 0, 20, 21, -1] (by decide) (by decide) 6 rfl _ rfl).mono ?_
  rintro e w3 ⟨x, rfl, hx, _, hg3⟩
  have hxb : -1 ≤ x ∧ x ≤ 21 := by simp at hx; omega
  have HF := Lib.hid (show Drawn w A2 c2 rs w3 from ⟨h6, hc, HTW.out, ((HM.out.apart (Nat.le_refl _) hg3 (fun i hi => by injection hi with hi; omega)).more hg3.size).row, hb1.grown (grown_trans HG.out hg3) hb1.size (fun k hk => by injection hk with hk; omega)⟩)
  have HXB := Lib.hid hxb
  clear hx hg3 hxb
  go_wp2_with fail
  go_ret2
  exact ⟨A2, c2, rs, x, rfl, HXB.out, HF.out⟩
theorem leastV_bd {rs : List (List Int)} {x : Int} (h : (housesB rs && inR x 0 20) = true) : leastV rs x ≤ 1000 := by
  have h' := h
  simp only [Bool.and_eq_true] at h
  rw [leastV_yes h']
  have hx := inR_iff.1 h.2
  have h1 := farH_bd h.1
  have h4 : sideH (rs.map hp) ≤ 1 := by
    rcases sideH_or (rs.map hp) with h0 | ⟨y, hy, he⟩
    · omega
    · have := house_mem h.1 hy; omega
  have h5 := sideH_nn (rs.map hp)
  have h2 : 2 * x * sideH (rs.map hp) ≤ 2 * x * 1 := Int.mul_le_mul_of_nonneg_left h4 (by omega)
  omega
end Go.Proofs.Ytlgeoilnjgojnaa
