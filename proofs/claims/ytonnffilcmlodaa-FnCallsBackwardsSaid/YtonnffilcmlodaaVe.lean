/- Calls: spec.KnownAfter, impl.KnownAfter. No condition. -/
import Derived.Test.YtonnffilcmlodaaVd
namespace Go.Proofs.Ytonnffilcmlodaa
open Go.RowKit

theorem knL_yes {n : Nat} {rs : List (List Int)} (h : callsB n rs = true) : knL n rs = kn n rs := by rw [knL, if_pos h]; rfl
theorem knL_no {n : Int} {rs : List (List Int)} (h : callsB n rs = false) : knL n rs = [] := by rw [knL, if_neg (by simp [h])]
theorem knL_len (n : Int) (rs : List (List Int)) : (knL n rs).length ≤ 7 := by
  unfold knL; split
  · rename_i h
    have := (callsB_of h).2
    rw [kn_len]; omega
  · simp
theorem kn_res {w w' : World} {n : Nat} {rs : List (List Int)} {A : Option Addr} {c : Nat} (h : callsB n rs = true) (ho : w'.ownsRow w.heap.size 3 1 (.slice A n c) n ((kn n rs).map (Value.int .i64))) (hb : Below w.heap.size w w') : iRes w (knL n rs) (.returned (.slice A n c)) w' := by
  rw [knL_yes h]
  exact iRes_row ho (by rw [kn_len]) hb

set_option maxRecDepth 100000 in
set_option maxHeartbeats 2000000 in
theorem specKnownAfter_any (A : Option Addr) (c : Nat) (rs : List (List Int)) (n : Int) (w : World) (hr : Grid w 0 w.heap.size A rs) (hl : rs.length ≤ 1000000000) (hs : ∀ r ∈ rs, r.length ≤ 1000000000) :
    Calls Try.prog 20 #[.int .i64 n, .slice A rs.length c] w (iRes w (knL n rs)) := by
  have H := Lib.hid (validCalls_any A c rs n w hr hl hs)
  by_cases hv : callsB n rs = true
  · obtain ⟨m, rfl⟩ : ∃ m : Nat, n = m := ⟨n.toNat, by have := (callsB_of hv).2; omega⟩
    have HK := Lib.hid (fun z => knownLow_any A c rs m (w.drewN z) hr hv)
    rw [hv] at H
    have HV := Lib.hid hv
    clear hs hl hv hr
    go_enter Try.func20, Try.ntmps20
    go_wp2_with (go_at_call 45; ((with_reducible refine H.out.mono ?_); rintro e w' ⟨rfl, z, rfl⟩))
    refine (HK.out z).mono ?_
    rintro e w' ⟨c', g, rfl, ho, hb⟩
    have HF := Lib.hid (kn_res (w := w) HV.out ho ((drewBelow w z).trans hb))
    clear ho hb
    go_wp2
    go_ret
    exact HF.out
  · have hv' : callsB n rs = false := by simpa using hv
    have HD := Lib.hid (knL_no hv')
    rw [hv'] at H
    clear hs hl hv hr hv'
    go_enter Try.func20, Try.ntmps20
    go_wp2_with (go_at_call 45; ((with_reducible refine H.out.mono ?_); rintro e w' ⟨rfl, z, rfl⟩))
    go_ret
    exact iRes.none HD.out (drewBelow _ _)

set_option maxRecDepth 100000 in
set_option maxHeartbeats 4000000 in
theorem impKnownAfter_any (A : Option Addr) (c : Nat) (rs : List (List Int)) (n : Int) (w : World) (hr : Grid w 0 w.heap.size A rs) (hs : ∀ r ∈ rs, r.length ≤ 1000000000) :
    Calls Try.prog 18 #[.int .i64 n, .slice A rs.length c] w (iRes w (knL n rs)) := by
  have H := Lib.hid (impValidCalls_any A c rs n w hr hs)
  by_cases hv : callsB n rs = true
  · obtain ⟨v1, v2, v3, v4⟩ := callsB_of hv
    obtain ⟨m, rfl⟩ : ∃ m : Nat, n = m := ⟨n.toNat, by omega⟩
    have HON := Lib.hid (fun X => ownNews_any m X (by omega) (by omega))
    have HVV := Lib.hid hv
    have HV := Lib.hid v1
    have HR := Lib.hid hr
    rw [hv] at H
    clear hs hv v1 hr
    go_enter Try.func18, Try.ntmps18
    go_wp2_with fail
    refine H.out.mono ?_
    rintro e w1 ⟨rfl, hb1⟩
    have HB1 := Lib.hid hb1
    have hz1 := hb1.size
    clear hb1
    go_wp2_with fail
    refine (HON.out _).mono ?_
    rintro e w2 ⟨cH, g, rfl, ho2, hb2⟩
    have hg1 := (ho2.lt g rfl).1
    have HO2 := Lib.hid (own_lessC ho2 hz1)
    have HB2 := Lib.hid (HB1.out.trans (hb2.mono hz1))
    clear ho2 hb2
    go_wp2
    go_loopw [16] (fun i wr => ∃ j : Nat, j ≤ rs.length ∧ i = .int .i64 j ∧ wr.ownsRow w.heap.size 3 1 (.slice (some ⟨g, 0, none⟩) m cH) m ((kn m (rs.take j)).map (Value.int .i64)) ∧ Below w.heap.size w wr) (fun i _ => rs.length - (intOf i).toNat)
    case atStart => exact ⟨0, by omega, rfl, HO2.out, HB2.out⟩
    case round =>
      obtain ⟨j, hj, rfl, hown, hbr⟩ := hrel
      clear HO2 HB2 HON
      have HBR := Lib.hid hbr
      have hbz := hbr.size
      have HO := Lib.hid hown
      by_cases hlt : j < rs.length
      · obtain ⟨b, o, R, c1, rfl, hb, hcell, hc1, ho⟩ := (HR.out.below hbr).open hlt
        obtain ⟨x, y, hxy, hx, hy, hne⟩ := callB_of (HV.out _ (List.getElem_mem hlt))
        have HTK := Lib.hid (show kn m (rs.take (j + 1)) = told (kn m (rs.take j)) x y by rw [kn_take hlt, hxy]; rfl)
        rw [hxy] at hcell ho
        obtain ⟨b', o', rfl, hb', hc'⟩ := ho.open (by simp)
        have q0 := ints_at hc' (show 0 < [(x : Int), (y : Int)].length by simp)
        have q1 := ints_at hc' (show 1 < [(x : Int), (y : Int)].length by simp)
        simp only [List.getElem_cons_zero, List.getElem_cons_succ, Nat.add_zero] at q0 q1
        rw [show ([(x : Int), (y : Int)]).length = 2 from rfl] at hcell
        have hS := kn_sets m (rs.take j)
        obtain ⟨r, hre⟩ : ∃ r, kn m (rs.take j) = r := ⟨_, rfl⟩
        rw [hre] at hS hown HTK HO
        have HT := Lib.hid (fun X (hX : Below wr.heap.size wr X) => (tell_any g m w.heap.size cH x y r X (own_keepC HO.out hX) hS (by omega) (by omega) (by omega)).mono (fun e w' ⟨h1, h2, h3⟩ => show e = Ending.returned (.tuple #[]) ∧ w'.ownsRow w.heap.size 3 1 (.slice (some ⟨g, 0, none⟩) m cH) m ((told r x y).map (Value.int .i64)) ∧ Below w.heap.size w w' from ⟨h1, h2, by
          obtain ⟨q, h4⟩ := h3
          exact (HBR.out.trans ((hX.mono hbz).trans ((drewBelow X q).mono (Nat.le_trans hbz hX.size)))).grown h4 (Nat.le_trans hbz (Nat.le_trans hX.size (drewBelow X q).size)) (fun i hi => by injection hi with hi; omega)⟩))
        have hjI : (j : Int) < (rs.length : Int) := by omega
        clear hre hown hS hc' ho hxy hbr hne hc1 hx hy
        go_wp2_with fail
        go_region_with (go_at_call 47; (refine (HT.out _ (by first | exact Below.refl _ _ | exact below_drewC (Below.refl _ _))).mono ?_); rintro e w5 ⟨rfl, o5, b5⟩)
        all_goals
          have HW := Lib.hid (And.intro o5 b5)
          clear o5 b5
          go_wp2_with fail
          go_roundw
          case rel => exact ⟨j + 1, by omega, by go_num, by rw [HTK.out]; first | exact HW.out.1 | exact HW.out.1.drew, by first | exact HW.out.2 | exact below_drewC HW.out.2⟩
          case measure => simp [intOf]; omega
      · have hje : j = rs.length := by omega
        subst hje
        have HF := Lib.hid (show iRes w (knL m rs) (.returned (.slice (some ⟨g, 0, none⟩) m cH)) wr from kn_res HVV.out (by have := hown; rw [List.take_length] at this; exact this) hbr)
        clear hown hbr
        go_wp2
        go_ret
        exact HF.out
  · have hv' : callsB n rs = false := by simpa using hv
    have HD := Lib.hid (knL_no hv')
    rw [hv'] at H
    clear hs hv hr hv'
    go_enter Try.func18, Try.ntmps18
    go_wp2_with (go_at_call 15; ((with_reducible refine H.out.mono ?_); rintro e w' ⟨rfl, hb⟩))
    go_ret
    exact iRes.none HD.out hb
end Go.Proofs.Ytonnffilcmlodaa
