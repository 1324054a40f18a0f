/- The office, both sides, and the walk of the law FnExactOfficeOf. No condition. -/
import Derived.Test.YtlmcclbikljbhaaQ8
import Derived.Test.YtlmcclbikljbhaaQ2
import Derived.Test.YtlmcclbikljbhaaQ5
import Derived.Test.YtlmcclbikljbhaaEq
namespace Go.Proofs.Ytlmcclbikljbhaa
open Go.RowKit

theorem routes_small {rs : List (ByteArray × Int)} (h : routesB rs = true) : rs.length ≤ 8 := by
  simp only [routesB, Bool.and_eq_true, decide_eq_true_eq] at h
  exact h.1
def officeP (rs : List (ByteArray × Int)) (s : ByteArray) : Int := if routesB rs && fourB s then ov rs (lg rs s (-1) rs.length) else -1

set_option maxRecDepth 100000 in
theorem specOfficeOf_any (A : Option Addr) (c : Nat) (rs : List (ByteArray × Int)) (s : ByteArray) (w : World) (hr : Own w 0 w.heap.size A (flat rs)) (hl : rs.length ≤ 1048576) (hz : s.size ≤ 1048576) (hs : ∀ r ∈ rs, r.1.size ≤ 1048576) :
    Calls Try.prog 24 #[.slice A rs.length c, .string s] w fun e w' => e = .returned (.int .i64 (officeP rs s)) ∧ ∃ n, w' = w.drewN n := by
  have HS := Lib.hid hs
  have hv := specValidRoutes_any A c rs w hr (by omega) (fun r h => Nat.le_trans (hs r h) (by omega))
  have hd := fun X => isDigits_any s X hz
  have ho := fun X hX => office_any A c rs s X hX hl hs
  obtain ⟨q, hq⟩ : ∃ q, routesB rs = q := ⟨_, rfl⟩
  obtain ⟨p, hp⟩ : ∃ p, fourB s = p := ⟨_, rfl⟩
  have he : officeP rs s = if q && p then ov rs (lg rs s (-1) rs.length) else -1 := by rw [officeP, hq, hp]
  rw [hq] at hv
  rw [hp] at hd
  rw [he]
  have HV := Lib.hid hv
  have HD := Lib.hid hd
  have HO := Lib.hid ho
  clear hv hd ho hq hp he hs
  go_enter Try.func24, Try.ntmps24
  go_wp2_with fail
  refine HV.out.mono ?_
  rintro e w1 ⟨rfl, n1, hw1⟩
  have b1 : Below w.heap.size w w1 := by rw [hw1]; exact below_drewN (Below.refl _ _) n1
  have hr1 := hr.past b1
  have HW := Lib.hid hw1
  clear hw1
  cases q
  · go_wp2
    go_ret
    exact ⟨rfl, n1, HW.out⟩
  · go_wp2_with fail
    refine (HD.out _).mono ?_
    rintro e w2 ⟨rfl, rfl⟩
    cases p
    · go_wp2
      go_ret
      exact ⟨rfl, n1, HW.out⟩
    · go_wp2_with fail
      refine (HO.out _ hr1).mono ?_
      rintro e w2 ⟨rfl, n2, hw2⟩
      have HW2 := Lib.hid (show ∃ q, w2 = w.drewN q by rw [hw2, HW.out]; exact ⟨_, World.drewN_drewN ..⟩)
      clear hw2
      go_wp2
      go_ret
      exact ⟨rfl, HW2.out⟩

set_option maxRecDepth 100000 in
set_option maxHeartbeats 1000000 in
theorem impOfficeOf_any (A : Option Addr) (c : Nat) (rs : List (ByteArray × Int)) (s : ByteArray) (w : World) (hr : Own w 0 w.heap.size A (flat rs)) (hlc : rs.length ≤ c) (hl : rs.length ≤ 1048576) (hs : ∀ r ∈ rs, r.1.size ≤ 1048576) :
    Calls Try.prog 23 #[.slice A rs.length c, .string s] w fun e w' => e = .returned (.int .i64 (officeP rs s)) ∧ Below w.heap.size w w' := by
  have HS := Lib.hid hs
  have hv := impValidRoutes_any A c rs w hr hlc (fun r h => Nat.le_trans (hs r h) (by omega))
  have ho := fun X hX => longestHead_any A c rs s (-1) X hX hl hs
  obtain ⟨q, hq⟩ : ∃ q, routesB rs = q := ⟨_, rfl⟩
  rw [hq] at hv
  have HV := Lib.hid hv
  have HO := Lib.hid ho
  have HQ := Lib.hid hq
  clear hv ho hq hs
  go_enter Try.func23, Try.ntmps23
  go_wp2_with fail
  refine HV.out.mono ?_
  rintro e w1 ⟨rfl, b1⟩
  have hr1 := hr.past b1
  have HB1 := Lib.hid b1
  clear b1
  cases q
  · have HE := Lib.hid (show officeP rs s = -1 by simp [officeP, HQ.out])
    go_wp2
    go_ret
    exact ⟨by rw [HE.out]; rfl, HB1.out⟩
  · by_cases h4 : s.size = 4
    · have hd := fun X => onlyDigits_any s X (by omega)
      obtain ⟨p, hp⟩ : ∃ p, onlyD s.data.toList = p := ⟨_, rfl⟩
      rw [hp] at hd
      have HD := Lib.hid hd
      have h4b : ((s.size : Int) != 4) = false := by simp; omega
      have HP := Lib.hid (show fourB s = p by simp [fourB, hp, h4])
      clear hd hp h4
      go_wp2_with fail
      refine (HD.out _).mono ?_
      rintro e w2 ⟨rfl, b2⟩
      have hr2 := hr1.past b2
      have HB2 := Lib.hid (HB1.out.trans (b2.mono HB1.out.size))
      clear b2 h4b
      cases p
      · have HE := Lib.hid (show officeP rs s = -1 by simp [officeP, HQ.out, HP.out])
        go_wp2
        go_ret
        exact ⟨by rw [HE.out]; rfl, HB2.out⟩
      · have HE := Lib.hid (show officeP rs s = ov rs (lg rs s (-1) rs.length) by simp [officeP, HQ.out, HP.out])
        obtain ⟨hB0, hB1⟩ := lg_le rs s (-1) rs.length
        obtain ⟨B, hBe⟩ : ∃ B, lg rs s (-1) rs.length = B := ⟨_, rfl⟩
        rw [hBe] at hB0 hB1
        have HBE := Lib.hid hBe
        clear hBe
        go_wp2_with fail
        refine (HO.out _ hr2).mono ?_
        rintro e w3 ⟨he, b3⟩
        rw [HBE.out] at he
        subst he
        have hr3 := hr2.past b3
        have HB3 := Lib.hid (HB2.out.trans (b3.mono HB2.out.size))
        clear b3
        by_cases hneg : B < 0
        · have HE2 := Lib.hid (show officeP rs s = -1 by rw [HE.out, HBE.out]; simp [ov, hneg])
          go_wp2
          go_ret
          exact ⟨by rw [HE2.out]; rfl, HB3.out⟩
        · have hB : B.toNat < rs.length := by omega
          obtain ⟨b, o, rfl, hb, hc⟩ := hr3.open (by rw [flat_length]; omega)
          obtain ⟨hc1, hc2⟩ := routes_at hc hB
          have hof := of_get hB
          obtain ⟨f, hfe⟩ : ∃ f, rs[B.toNat].2 = f := ⟨_, rfl⟩
          rw [hfe] at hc2 hof
          have HE2 := Lib.hid (show officeP rs s = f by rw [HE.out, HBE.out]; simp [ov, hneg, hof])
          have hB0' : 0 ≤ B := by omega
          have hd1 : decide (B < 0) = false := decide_eq_false hneg
          clear hc hfe hof
          go_wp2
          go_ret
          exact ⟨by rw [HE2.out]; rfl, HB3.out⟩
    · have h4b : ((s.size : Int) != 4) = true := by simp; omega
      have HE := Lib.hid (show officeP rs s = -1 by simp [officeP, fourB, h4])
      clear h4
      go_wp2
      go_ret
      exact ⟨by rw [HE.out]; rfl, HB1.out⟩
end Go.Proofs.Ytlmcclbikljbhaa
