/- The walk of the law FnValidCalls. No condition. -/
import Derived.Test.YtonnffilcmlodaaV7e
import Derived.Test.YtonnffilcmlodaaVb
import Derived.Test.YtonnffilcmlodaaRd2
namespace Go.Proofs.Ytonnffilcmlodaa
open Go.RowKit

theorem Grid.takeV {w : World} {base B : Nat} {A : Option Addr} {rs : List (List Int)} (h : Grid w base B A rs) (m : Nat) : Grid w base B A (rs.take m) := by
  obtain ⟨hs, h1, h2⟩ := h
  refine ⟨hs.take m, h1.take m, by rw [List.length_take, List.length_take, h2.1], fun i hi => ?_⟩
  simp only [List.length_take] at hi
  obtain ⟨R, c, h3, h4, h5⟩ := h2.2 i (by omega)
  rw [List.getElem_take, List.getElem?_take, if_pos (by omega)]
  exact ⟨R, c, h3, h4, h5⟩

theorem slice_uptoC (b o n c j : Nat) (h : j ≤ c) (W : World) :
    (Instr.slice 23 (.slice (some ⟨b, o, none⟩) n c) none (some (.int .i64 (j : Int))) none).run Try.prog W = .ok (.slice (some ⟨b, o, none⟩) j c) W := by
  have h1 : (0 : Int) ≤ (j : Int) := by omega
  have h2 : (j : Int) ≤ (c : Int) := by omega
  go_simp
theorem impValid_b (A : Option Addr) (c m : Nat) (rs : List (List Int)) (n : Int) (w : World) (b : Bool) (hr : Grid w 0 w.heap.size A rs) (hs : ∀ r ∈ rs, r.length ≤ 2) (hm : m = rs.length) (hb : callsB n rs = b) :
    Calls Try.prog 15 #[.int .i64 n, .slice A m c] w fun e w' => e = .returned (.bool b) ∧ Below w.heap.size w w' := by
  rw [← hb, hm]
  exact impValidCalls_any A c rs n w hr (fun r h => by have := hs r h; omega)
theorem specValid_b (A : Option Addr) (c m : Nat) (rs : List (List Int)) (n : Int) (w : World) (b : Bool) (hr : Grid w 0 w.heap.size A rs) (hl : rs.length ≤ 1000) (hs : ∀ r ∈ rs, r.length ≤ 2) (hm : m = rs.length) (hb : callsB n rs = b) :
    Calls Try.prog 16 #[.int .i64 n, .slice A m c] w fun e w' => e = .returned (.bool b) ∧ Below w.heap.size w w' := by
  rw [← hb, hm]
  exact specValidCalls_any A c rs n w hr (by omega) (fun r h => by have := hs r h; omega)

set_option maxRecDepth 100000 in
set_option maxHeartbeats 8000000 in
theorem validCalls_law (A : Option Addr) (c : Nat) (zs : List Int) (v0 : World) (hr : Own v0 0 v0.heap.size A (zs.map (Value.int .u8))) (hx : zs.length ≤ c ∧ c ≤ maxLen ∧ ∀ z ∈ zs, (Lit.int .u8 z).wf = true) :
    Calls Try.prog 3 #[.slice A zs.length c] v0 fun e w' => e = .returned (.bool true) ∧ Below v0.heap.size v0 w' := by
  have hl : zs.length ≤ 9223372036854775807 := by have := hx.1; have := hx.2.1; unfold maxLen at this; omega
  have HX := Lib.hid hx
  clear hx
  by_cases h20 : zs.length ≤ 1048576
  · go_enter Try.func3, Try.ntmps3
    go_wp2_with fail
    refine (drawValidCalls_any _ _ _ _ hr HX.out).mono ?_
    rintro e w ⟨n, A1, c1, rs, rfl, ⟨hn0, hn8⟩, hl22, hcap, htw, _, hgr, hb0⟩
    have HB0 := Lib.hid hb0
    have z00 := hb0.size
    have HGR := Lib.hid hgr
    have HTW := Lib.hid htw
    obtain ⟨b, hb⟩ : ∃ b, callsB n rs = b := ⟨_, rfl⟩
    have HB := Lib.hid hb
    have e5 : (b != b) = false := by simp
    have e6 : (b == b) = true := by simp
    clear hb hb0 hgr htw hr
    go_wp2_with fail
    refine (impValid_b _ _ _ rs n w b HGR.out HTW.out rfl HB.out).mono ?_
    rintro e w1 ⟨rfl, hb1⟩
    have HW1 := Lib.hid hb1
    have z1 := hb1.size
    clear hb1
    go_wp2_with fail
    refine (specValid_b _ _ _ rs n w1 b ((HGR.out.below HW1.out).more z1) (by omega) HTW.out rfl HB.out).mono ?_
    rintro e w2 ⟨rfl, hb2⟩
    have HW2 := Lib.hid (HW1.out.trans (hb2.mono z1))
    have z2 := HW2.out.size
    clear hb2
    cases b with
    | false =>
      go_wp2_with fail
      refine (specValid_b _ _ _ rs n w2 false ((HGR.out.below HW2.out).more z2) (by omega) HTW.out rfl HB.out).mono ?_
      rintro e w3 ⟨rfl, hb3⟩
      have HE := Lib.hid (HB0.out.trans ((HW2.out.trans (hb3.mono z2)).mono z00))
      clear hb3
      go_wp2
      go_ret
      exact ⟨rfl, HE.out⟩
    | true =>
      have HE2 := Lib.hid (HB0.out.trans (HW2.out.mono z00))
      by_cases h0 : rs.length = 0
      · have t0 : ((rs.length : Int) == 0) = true := by simp [h0]
        clear h0
        go_wp2_with fail
        go_ret
        exact ⟨rfl, HE2.out⟩
      · have t0 : ((rs.length : Int) == 0) = false := beq_eq_false_iff_ne.2 (by omega)
        obtain ⟨k, hk⟩ : ∃ k, rs.length = k + 1 := ⟨rs.length - 1, by omega⟩
        have hsub : (rs.length : Int) - 1 = (k : Int) := by omega
        obtain ⟨bb, oo, rfl⟩ : ∃ b o, A1 = some ⟨b, o, none⟩ := by
          obtain ⟨hs, h1, h2⟩ := HGR.out
          obtain ⟨b, o, e, _⟩ := h1.open (by rw [h2.1]; omega)
          exact ⟨b, o, e⟩
        have hsl := fun X => slice_uptoC bb oo rs.length c1 k (by omega) X
        have HTT := Lib.hid (show ∀ r ∈ rs.take k, r.length ≤ 2 from fun r hr => HTW.out r (List.mem_of_mem_take hr))
        have HBT := Lib.hid (callsB_take k HB.out)
        have hlk : k = (rs.take k).length := by rw [List.length_take]; omega
        have HLK := Lib.hid hlk
        clear h0 hk hlk
        go_wp2_with fail
        refine (impValid_b _ _ _ (rs.take k) n w2 true (((HGR.out.below HW2.out).more z2).takeV k) HTT.out HLK.out HBT.out).mono ?_
        rintro e w3 ⟨rfl, hb3⟩
        have HE := Lib.hid (HB0.out.trans ((HW2.out.trans (hb3.mono z2)).mono z00))
        clear hb3
        go_wp2
        go_ret
        exact ⟨rfl, HE.out⟩
  · go_enter Try.func3, Try.ntmps3
    go_wp2
    go_ret
    exact ⟨rfl, Below.refl _ _⟩
end Go.Proofs.Ytonnffilcmlodaa
