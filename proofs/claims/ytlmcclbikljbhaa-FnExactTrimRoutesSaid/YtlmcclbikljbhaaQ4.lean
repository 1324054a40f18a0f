/- impl.ValidRoutes. No condition. -/
import Derived.Test.YtlmcclbikljbhaaQ3
namespace Go.Proofs.Ytlmcclbikljbhaa
open Go.RowKit

set_option maxRecDepth 100000 in
theorem specValidRoutes2_any (A : Option Addr) (c : Nat) (rs : List (ByteArray × Int)) (w : World) (hr : Own w 0 w.heap.size A (flat rs)) (hl : rs.length ≤ 9000000000000000000) (hs : ∀ r ∈ rs, r.1.size ≤ 9000000000000000000) :
    Calls Try.prog 21 #[.slice A rs.length c] w fun e w' => e = .returned (.bool (routesB rs)) ∧ ∃ n, w' = w.drewN n := by
  have h := specValidRoutes_any A c rs w hr hl hs
  obtain ⟨q, hq⟩ : ∃ q, routesB rs = q := ⟨_, rfl⟩
  rw [hq] at h ⊢
  have H := Lib.hid h
  clear h hq
  go_enter Try.func21, Try.ntmps21
  go_wp2_with fail
  refine H.out.mono ?_
  rintro e w1 ⟨rfl, n, rfl⟩
  go_wp2_with fail
  go_ret
  exact ⟨rfl, n, rfl⟩

set_option maxRecDepth 100000 in
set_option maxHeartbeats 4000000 in
theorem impValidRoutes_any (A : Option Addr) (c : Nat) (rs : List (ByteArray × Int)) (w : World) (hr : Own w 0 w.heap.size A (flat rs)) (hlc : rs.length ≤ c) (hs : ∀ r ∈ rs, r.1.size ≤ 9000000000000000000) :
    Calls Try.prog 20 #[.slice A rs.length c] w fun e w' => e = .returned (.bool (routesB rs)) ∧ Below w.heap.size w w' := by
  have HS := Lib.hid hs
  clear hs
  by_cases h8 : rs.length ≤ 8
  · have hd8 : decide ((8 : Int) < (rs.length : Int)) = false := decide_eq_false (by omega)
    go_enter Try.func20, Try.ntmps20
    go_wp2
    clear hd8
    go_loopw [12] (fun i wr => ∃ n : Nat, n ≤ rs.length ∧ i = .int .i64 n ∧ (List.range n).all (okR rs) = true ∧ Below w.heap.size w wr) (fun i _ => rs.length - (intOf i).toNat)
    case atStart => exact ⟨0, by omega, rfl, by simp, Below.refl _ _⟩
    case round =>
      obtain ⟨n, hn, rfl, hall, hbw⟩ := hrel
      have HA := Lib.hid hall
      have HBW := Lib.hid hbw
      have hrr := hr.below hbw
      have hWz := hbw.size
      obtain ⟨W, hW⟩ : ∃ W : World, W = wr := ⟨_, rfl⟩
      subst hW
      clear hall hbw
      by_cases hlt : n < rs.length
      · obtain ⟨b, o, rfl, hb, hc⟩ := hrr.open (by rw [flat_length]; omega)
        have HC := Lib.hid hc
        obtain ⟨hc1, hc2⟩ := routes_at hc hlt
        have hsz := HS.out _ (List.getElem_mem hlt)
        have hh := hd_get hlt
        have ho := of_get hlt
        obtain ⟨s, hse⟩ : ∃ s, rs[n].1 = s := ⟨_, rfl⟩
        obtain ⟨f, hfe⟩ : ∃ f, rs[n].2 = f := ⟨_, rfl⟩
        rw [hse] at hc1 hsz hh
        rw [hfe] at hc2 ho
        have HH := Lib.hid hh
        have HOF := Lib.hid ho
        have hnI : (n : Int) < rs.length := by omega
        clear hc hh ho hse hfe hrr
        by_cases h4 : s.size ≤ 4
        · have hd4 : decide ((4 : Int) < (s.size : Int)) = false := decide_eq_false (by omega)
          have hon := fun X => onlyDigits_any s X (by omega)
          by_cases hod : onlyD s.data.toList = true
          · rw [hod] at hon
            have HON := Lib.hid hon
            have HOD := Lib.hid hod
            clear hon hod
            by_cases hin : inR f 0 9 = true
            · have hfb : 0 ≤ f ∧ f ≤ 9 := by simpa [inR] using hin
              obtain ⟨hf0, hf9⟩ := hfb
              have HIN := Lib.hid hin
              clear hin
              go_wp2_with fail
              refine (HON.out _).mono ?_
              rintro e w2 ⟨rfl, b2⟩
              have k1 : w2.cell? ⟨W.heap.size, 0, none⟩ = some (.string s) := cell_stay b2 (by simp) (by rw [World.cell?_alloc_at _ _ _ _ rfl]; rfl)
              have k2 : w2.cell? ⟨W.heap.size, 1, none⟩ = some (.int .i64 f) := cell_stay b2 (by simp) (by rw [World.cell?_alloc_at _ _ _ _ rfl]; rfl)
              have z2 := b2.size
              simp only [World.size_alloc] at z2
              have b12 : Below W.heap.size W w2 := ((Below.refl _ _).alloc (Nat.le_refl _) _).trans (b2.mono (by simp))
              have B12 := Lib.hid b12
              have hcap : (n : Int) ≤ (c : Int) := by omega
              have hn0 : (0 : Int) ≤ (n : Int) := by omega
              clear b2 b12
              go_wp2
              go_loopw [41] (fun i wx => ∃ j : Nat, j ≤ n ∧ i = .int .i64 j ∧ (List.range j).all (fun j => !((hd rs j).toList == (hd rs n).toList)) = true ∧ Below w2.heap.size w2 wx) (fun i _ => n - (intOf i).toNat)
              case atStart => exact ⟨0, by omega, rfl, by simp, Below.refl _ _⟩
              case round =>
                obtain ⟨j, hj, rfl, hpr, hbx⟩ := hrel
                have HPR := Lib.hid hpr
                have HBX := Lib.hid hbx
                obtain ⟨X, hX⟩ : ∃ X : World, X = wr := ⟨_, rfl⟩
                subst hX
                have zx := hbx.size
                have x1 : X.cell? ⟨W.heap.size, 0, none⟩ = some (.string s) := cell_stay hbx (by omega) k1
                have HWX := Lib.hid ((HBW.out.trans (B12.out.mono hWz)).trans (hbx.mono (by omega)))
                clear hpr
                by_cases hjn : j < n
                · have hjl : j < rs.length := by omega
                  obtain ⟨hcj, hcj2⟩ := routes_at HC.out hjl
                  have g1 : X.cell? ⟨b, o + j * 2, none⟩ = some (.string rs[j].1) := cell_stay hbx (by omega) (cell_stay B12.out (by omega) hcj)
                  have g2 : X.cell? ⟨b, o + j * 2 + 1, none⟩ = some (.int .i64 rs[j].2) := cell_stay hbx (by omega) (cell_stay B12.out (by omega) hcj2)
                  have hhj := hd_get hjl
                  obtain ⟨t, hte⟩ : ∃ t, rs[j].1 = t := ⟨_, rfl⟩
                  obtain ⟨u, hue⟩ : ∃ u, rs[j].2 = u := ⟨_, rfl⟩
                  rw [hte] at g1 hhj
                  rw [hue] at g2
                  have HJ := Lib.hid hhj
                  have hjI : (j : Int) < (n : Int) := by omega
                  have hd1 : decide (j < n) = true := decide_eq_true hjn
                  have hxW : W.heap.size < X.heap.size := by omega
                  clear hcj hcj2 hhj hte hue hbx
                  by_cases heq : (t.toList == s.toList) = true
                  · have hF : okR rs n = false := by
                      have : (List.range n).all (fun j => !((hd rs j).toList == (hd rs n).toList)) = false := all_range_no hjn (by simp only [HJ.out, HH.out, heq, Bool.not_true])
                      simp only [okR, this, Bool.and_false]
                    have HF := Lib.hid (routesB_no hlt hF)
                    clear hF
                    go_wp2
                    go_ret
                    exact ⟨ret_bool HF.out.symm, HWX.out.alloc HWX.out.size _⟩
                  · have heq' : (t.toList == s.toList) = false := by simpa using heq
                    have HJ2 := Lib.hid heq'
                    clear heq
                    go_wp2
                    clear hd1 heq'
                    go_roundw
                    case rel =>
                      refine ⟨j + 1, by omega, by go_num, ?_, HBX.out.alloc HBX.out.size _⟩
                      rw [all_range_succ, HPR.out, Bool.true_and]
                      have := HJ2.out
                      simp only [HJ.out, HH.out, this, Bool.not_false]
                    case measure => simp [intOf]; omega
                · have hj' : j = n := by omega
                  subst hj'
                  have hd1 : decide (j < j) = false := by simp
                  clear hbx
                  have hok : okR rs j = true := by
                    unfold okR
                    rw [HPR.out, HH.out, HOF.out, HIN.out, HOD.out, decide_eq_true h4]
                    rfl
                  have HOKR := Lib.hid hok
                  clear hok
                  go_wp2
                  clear hd1
                  go_roundw
                  case rel => exact ⟨j + 1, by omega, by go_num, by rw [all_range_succ, HA.out, HOKR.out]; rfl, HWX.out⟩
                  case measure => simp [intOf]; omega
            · have hin' : inR f 0 9 = false := by simpa using hin
              have HF := Lib.hid (routesB_no hlt (show okR rs n = false by simp only [okR, HOF.out, hin', Bool.and_false, Bool.false_and]))
              have hfb : ¬ (0 ≤ f ∧ f ≤ 9) := by simpa [inR] using hin
              have hor : f < 0 ∨ (0 ≤ f ∧ 9 < f) := by omega
              clear hin hin' hfb
              go_wp2_with fail
              refine (HON.out _).mono ?_
              rintro e w2 ⟨rfl, b2⟩
              have k2 : w2.cell? ⟨W.heap.size, 1, none⟩ = some (.int .i64 f) := cell_stay b2 (by simp) (by rw [World.cell?_alloc_at _ _ _ _ rfl]; rfl)
              have B12 := Lib.hid (show Below W.heap.size W w2 from ((Below.refl _ _).alloc (Nat.le_refl _) _).trans (b2.mono (by simp)))
              clear b2
              rcases hor with hneg | ⟨hp0, hp9⟩
              · go_wp2
                go_ret
                exact ⟨ret_bool HF.out.symm, HBW.out.trans (B12.out.mono hWz)⟩
              · go_wp2
                go_ret
                exact ⟨ret_bool HF.out.symm, HBW.out.trans (B12.out.mono hWz)⟩
          · have hod' : onlyD s.data.toList = false := by simpa using hod
            rw [hod'] at hon
            have HON := Lib.hid hon
            have HF := Lib.hid (routesB_no hlt (show okR rs n = false by simp only [okR, HH.out, hod', Bool.and_false, Bool.false_and]))
            clear hon hod hod'
            go_wp2_with fail
            refine (HON.out _).mono ?_
            rintro e w2 ⟨rfl, b2⟩
            have B12 := Lib.hid (show Below W.heap.size W w2 from ((Below.refl _ _).alloc (Nat.le_refl _) _).trans (b2.mono (by simp)))
            clear b2
            go_wp2
            go_ret
            exact ⟨ret_bool HF.out.symm, HBW.out.trans (B12.out.mono hWz)⟩
        · have HF := Lib.hid (routesB_no hlt (show okR rs n = false by simp only [okR, HH.out, decide_eq_false h4, Bool.false_and]))
          have hd4 : (4 : Int) < (s.size : Int) := by omega
          clear h4
          go_wp2
          go_ret
          exact ⟨ret_bool HF.out.symm, HBW.out.alloc HBW.out.size _⟩
      · have hn' : n = rs.length := by omega
        subst hn'
        have hT : routesB rs = true := by rw [routesB_yes HA.out]; exact decide_eq_true h8
        have HT := Lib.hid hT
        clear hT
        go_wp2
        go_ret
        exact ⟨ret_bool HT.out.symm, HBW.out⟩
  · have hF : routesB rs = false := by simp only [routesB, decide_eq_false h8, Bool.false_and]
    have HF := Lib.hid hF
    have hgt : (8 : Int) < (rs.length : Int) := by omega
    clear hF h8
    go_enter Try.func20, Try.ntmps20
    go_wp2
    go_ret
    exact ⟨ret_bool HF.out.symm, Below.refl _ _⟩
end Go.Proofs.Ytlmcclbikljbhaa
