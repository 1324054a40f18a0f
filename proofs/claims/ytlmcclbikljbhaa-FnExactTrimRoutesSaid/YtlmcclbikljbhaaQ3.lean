/- Valid routes, both sides. No condition. -/
import Derived.Test.YtlmcclbikljbhaaQ1
import Derived.Test.YtlmcclbikljbhaaC2
import Derived.Test.YtlmcclbikljbhaaS0
import Derived.BigQuiet
import Derived.Deep.QuietTactic
namespace Go.Proofs.Ytlmcclbikljbhaa
open Go.RowKit

def hd (rs : List (ByteArray × Int)) (i : Nat) : ByteArray := (rs.getD i (ByteArray.empty, 0)).1
def of_ (rs : List (ByteArray × Int)) (i : Nat) : Int := (rs.getD i (ByteArray.empty, 0)).2
/-- The route at place i is valid, and its head is not among those ahead of it. -/
def okR (rs : List (ByteArray × Int)) (i : Nat) : Bool := decide ((hd rs i).size ≤ 4) && inR (of_ rs i) 0 9 && onlyD (hd rs i).data.toList && (List.range i).all (fun j => !((hd rs j).toList == (hd rs i).toList))
def routesB (rs : List (ByteArray × Int)) : Bool := decide (rs.length ≤ 8) && (List.range rs.length).all (okR rs)
theorem hd_get {rs : List (ByteArray × Int)} {i : Nat} (h : i < rs.length) : hd rs i = rs[i].1 := by simp [hd, List.getD, List.getElem?_eq_getElem h]
theorem of_get {rs : List (ByteArray × Int)} {i : Nat} (h : i < rs.length) : of_ rs i = rs[i].2 := by simp [of_, List.getD, List.getElem?_eq_getElem h]
theorem routesB_no {rs : List (ByteArray × Int)} {i : Nat} (hi : i < rs.length) (h : okR rs i = false) : routesB rs = false := by simp [routesB, all_range_no hi h]
theorem routesB_yes {rs : List (ByteArray × Int)} (h : (List.range rs.length).all (okR rs) = true) : routesB rs = decide (rs.length ≤ 8) := by simp only [routesB, h, Bool.and_true]

set_option maxRecDepth 100000 in
set_option maxHeartbeats 2000000 in
theorem specValidRoutes_any (A : Option Addr) (c : Nat) (rs : List (ByteArray × Int)) (w : World) (hr : Own w 0 w.heap.size A (flat rs)) (hl : rs.length ≤ 9000000000000000000) (hs : ∀ r ∈ rs, r.1.size ≤ 9000000000000000000) :
    Calls Try.prog 67 #[.slice A rs.length c] w fun e w' => e = .returned (.bool (routesB rs)) ∧ ∃ n, w' = w.drewN n := by
  have HS := Lib.hid hs
  clear hs
  go_enter Try.func67, Try.ntmps67
  go_wp2
  go_loopw [3] (fun i wr => ∃ n : Nat, n ≤ rs.length ∧ i = .int .i64 n ∧ (List.range n).all (okR rs) = true ∧ ∃ q, wr = w.drewN q) (fun i _ => rs.length - (intOf i).toNat)
  case atStart => exact ⟨0, by omega, rfl, by simp, 0, rfl⟩
  case round =>
    obtain ⟨n, hn, rfl, hall, hwr⟩ := hrel
    have HA := Lib.hid hall
    have HWR := Lib.hid hwr
    have hbw : Below w.heap.size w wr := by obtain ⟨q, rfl⟩ := hwr; exact below_drewN (Below.refl _ _) q
    have hrr := hr.below hbw
    have hWz := hbw.size
    obtain ⟨W, hW⟩ : ∃ W : World, W = wr := ⟨_, rfl⟩
    subst hW
    clear hall hwr hbw
    by_cases hlt : n < rs.length
    · obtain ⟨b, o, rfl, hb, hc⟩ := hrr.open (by rw [flat_length]; omega)
      have HC := Lib.hid hc
      obtain ⟨hc1, hc2⟩ := routes_at hc hlt
      have hsz := HS.out _ (List.getElem_mem hlt)
      have hh := hd_get hlt
      have ho := of_get hlt
      obtain ⟨s, hse⟩ : ∃ s, rs[n].1 = s := ⟨_, rfl⟩
      obtain ⟨f, hfe⟩ : ∃ f, rs[n].2 = f := ⟨_, rfl⟩
      rw [hse] at hc1 hsz hh
      rw [hfe] at hc2 ho
      have HH := Lib.hid hh
      have HOF := Lib.hid ho
      have hnI : (n : Int) < rs.length := by omega
      clear hc hh ho hse hfe hrr
      by_cases h4 : s.size ≤ 4
      · by_cases hin : inR f 0 9 = true
        · have hir := fun X => inRange_any f 0 9 X
          rw [hin] at hir
          have HIR := Lib.hid hir
          have HIN := Lib.hid hin
          have hd4 : decide ((4 : Int) < (s.size : Int)) = false := decide_eq_false (by omega)
          clear hir hin
          go_wp2_with (go_at_call 92; refine (HIR.out _).mono ?_; rintro e w' ⟨rfl, rfl⟩)
          clear hd4
          go_loop [4] (fun i => ∃ k : Nat, k ≤ s.size ∧ i = .int .i64 k ∧ (s.data.toList.take k).all isDig = true) (fun i => s.size - (intOf i).toNat)
          case atStart => exact ⟨0, by omega, rfl, by simp⟩
          case round =>
            obtain ⟨k, hk, rfl, hdg⟩ := hrel
            have HD := Lib.hid hdg
            clear hdg
            by_cases hks : k < s.size
            · have hby := byte_get s k hks
              have HBY := Lib.hid hby
              clear hby
              by_cases hdig : 48 ≤ (s[k]'hks).toNat ∧ (s[k]'hks).toNat ≤ 57
              · obtain ⟨hd1, hd2⟩ := hdig
                have hx1 : (48 : Int) ≤ ((s[k]'hks).toNat : Int) := by omega
                have hx2 : ((s[k]'hks).toNat : Int) ≤ 57 := by omega
                go_wp2
                go_round
                case rel => exact ⟨k + 1, by omega, by go_num, by rw [List.take_add_one, HBY.out, List.all_append, HD.out]; simp [isDig, hd1, hd2]⟩
                case measure => simp [intOf]; omega
              · have hF : okR rs n = false := by
                  have : onlyD s.data.toList = false := by
                    simp only [onlyD, List.all_eq_false]
                    exact ⟨s[k]'hks, List.mem_of_getElem? HBY.out, by simp only [isDig, decide_eq_true_eq]; exact hdig⟩
                  simp [okR, HH.out, this]
                have HF := Lib.hid (routesB_no hlt hF)
                have hq : ((s[k]'hks).toNat : Int) < 48 ∨ 57 < ((s[k]'hks).toNat : Int) := by omega
                clear hF hdig
                rcases hq with hq | hq
                · go_wp2
                  go_ret
                  exact ⟨ret_bool HF.out.symm, HWR.out⟩
                · have hq2 : ¬ ((s[k]'hks).toNat : Int) < 48 := by omega
                  go_wp2
                  go_ret
                  exact ⟨ret_bool HF.out.symm, HWR.out⟩
            · have hk' : k = s.size := by omega
              subst hk'
              have hod : onlyD s.data.toList = true := by
                have := HD.out
                rwa [List.take_of_length_le (by rw [Array.length_toList]; exact Nat.le_refl _)] at this
              have HOD := Lib.hid hod
              clear hod hks
              go_wp2
              go_loopw [5] (fun i wx => ∃ k : Nat, k ≤ n ∧ i = .int .i64 k ∧ (List.range k).all (fun j => !((hd rs j).toList == (hd rs n).toList)) = true ∧ ∃ q, wx = W.drewN q) (fun i _ => n - (intOf i).toNat)
              case atStart => exact ⟨0, by omega, rfl, by simp, 0, rfl⟩
              case round =>
                obtain ⟨j, hj, rfl, hpr, hwx⟩ := hrel
                have HPR := Lib.hid hpr
                have HWX := Lib.hid hwx
                have hbx : Below W.heap.size W wr := by obtain ⟨q, rfl⟩ := hwx; exact below_drewN (Below.refl _ _) q
                obtain ⟨X, hX⟩ : ∃ X : World, X = wr := ⟨_, rfl⟩
                subst hX
                have g1 : X.cell? ⟨b, o + n * 2, none⟩ = some (.string s) := cell_stay hbx (by omega) hc1
                have HWF : ∃ q, X = w.drewN q := by
                  obtain ⟨q1, h1⟩ := HWR.out
                  obtain ⟨q2, h2⟩ := hwx
                  rw [h2, h1]; exact ⟨_, World.drewN_drewN ..⟩
                have HWF' := Lib.hid HWF
                clear hpr hwx HWF
                by_cases hjn : j < n
                · have hjl : j < rs.length := by omega
                  obtain ⟨hcj, _⟩ := routes_at HC.out hjl
                  have g2 : X.cell? ⟨b, o + j * 2, none⟩ = some (.string rs[j].1) := cell_stay hbx (by omega) hcj
                  have hhj := hd_get hjl
                  obtain ⟨t, hte⟩ : ∃ t, rs[j].1 = t := ⟨_, rfl⟩
                  rw [hte] at g2 hhj
                  have HJ := Lib.hid hhj
                  have hjI : (j : Int) < (rs.length : Int) := by omega
                  have hj0 : (0 : Int) ≤ (j : Int) := by omega
                  have hn0 : (0 : Int) ≤ (n : Int) := by omega
                  have hd1 : decide (j < n) = true := decide_eq_true hjn
                  clear hcj hhj hte hbx
                  by_cases heq : (t.toList == s.toList) = true
                  · have hF : okR rs n = false := by
                      have : (List.range n).all (fun j => !((hd rs j).toList == (hd rs n).toList)) = false := all_range_no hjn (by simp only [HJ.out, HH.out, heq, Bool.not_true])
                      simp only [okR, this, Bool.and_false]
                    have HF := Lib.hid (routesB_no hlt hF)
                    clear hF
                    go_wp2
                    go_quiet (fail)
                    go_wp2
                    go_ret
                    exact ⟨ret_bool HF.out.symm, by obtain ⟨q, hq⟩ := HWF'.out; rw [hq]; exact ⟨_, World.drewN_drewN ..⟩⟩
                  · have heq' : (t.toList == s.toList) = false := by simpa using heq
                    have HJ2 := Lib.hid heq'
                    clear heq
                    go_wp2
                    go_quiet (fail)
                    go_wp2
                    clear hd1 heq'
                    go_roundw
                    case rel =>
                      refine ⟨j + 1, by omega, by go_num, ?_, ?_⟩
                      · rw [all_range_succ, HPR.out, Bool.true_and]
                        have := HJ2.out
                        simp only [HJ.out, HH.out, this, Bool.not_false]
                      · obtain ⟨q2, h2⟩ := HWX.out
                        rw [h2]; exact ⟨_, World.drewN_drewN ..⟩
                    case measure => simp [intOf]; omega
                · have hj' : j = n := by omega
                  subst hj'
                  have hd1 : decide (j < j) = false := by simp
                  clear hbx
                  have hok : okR rs j = true := by
                    unfold okR
                    rw [HPR.out, HH.out, HOF.out, HIN.out, HOD.out, decide_eq_true h4]
                    rfl
                  have HOKR := Lib.hid hok
                  clear hok
                  go_wp2
                  clear hd1
                  go_roundw
                  case rel => exact ⟨j + 1, by omega, by go_num, by rw [all_range_succ, HA.out, HOKR.out]; rfl, HWF'.out⟩
                  case measure => simp [intOf]; omega
        · have hin' : inR f 0 9 = false := by simpa using hin
          have hir := fun X => inRange_any f 0 9 X
          rw [hin'] at hir
          have HIR := Lib.hid hir
          have HF := Lib.hid (routesB_no hlt (show okR rs n = false by simp only [okR, HOF.out, hin', Bool.and_false, Bool.false_and]))
          have hd4 : decide ((4 : Int) < (s.size : Int)) = false := decide_eq_false (by omega)
          clear hir hin hin'
          go_wp2_with (go_at_call 92; refine (HIR.out _).mono ?_; rintro e w' ⟨rfl, rfl⟩)
          go_ret
          exact ⟨ret_bool HF.out.symm, HWR.out⟩
      · have HF := Lib.hid (routesB_no hlt (show okR rs n = false by simp only [okR, HH.out, decide_eq_false h4, Bool.false_and]))
        have hd4 : (4 : Int) < (s.size : Int) := by omega
        clear h4
        go_wp2
        go_ret
        exact ⟨ret_bool HF.out.symm, HWR.out⟩
    · have hn' : n = rs.length := by omega
      subst hn'
      have HF := Lib.hid (routesB_yes HA.out)
      go_wp2
      go_ret
      exact ⟨by rw [HF.out]; simp; omega, HWR.out⟩
end Go.Proofs.Ytlmcclbikljbhaa
