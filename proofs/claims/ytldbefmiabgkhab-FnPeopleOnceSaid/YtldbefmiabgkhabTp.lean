/- The walk of the law FnLoopsOf. No condition. -/
import Derived.Test.YtldbefmiabgkhabTo
import Derived.Test.YtldbefmiabgkhabTm
import Derived.Test.YtldbefmiabgkhabTi
import Derived.Test.YtldbefmiabgkhabEq
import Derived.Test.YtldbefmiabgkhabAs
namespace Go.Proofs.Ytldbefmiabgkhab
open Go.RowKit

theorem equalInts_one (A B : Option Addr) (c d : Nat) (q : List Int) (w : World) (hx : Ints w w.heap.size A q) (hy : Ints w w.heap.size B q) (hl : q.length ≤ 1000000) :
    Calls Try.prog 20 #[.slice A q.length c, .slice B q.length d] w fun e w' => e = .returned (.bool true) ∧ Below w.heap.size w w' := by
  have h := equalInts_any A B c d q q w hx hy (by omega)
  rw [eqISelf] at h
  exact h.mono fun _ _ ⟨he, n, hw⟩ => ⟨he, by rw [hw]; exact drewBelow _ _⟩

set_option maxRecDepth 100000 in
set_option maxHeartbeats 4000000 in
theorem loopsOf_law (A : Option Addr) (c : Nat) (zs : List Int) (w : World) (hr : Own w 0 w.heap.size A (zs.map (Value.int .u8))) (hx : zs.length ≤ c ∧ c ≤ maxLen ∧ ∀ z ∈ zs, (Lit.int .u8 z).wf = true) :
    Calls Try.prog 6 #[.slice A zs.length c] w fun e w' => e = .returned (.bool true) ∧ Below w.heap.size w w' := by
  have hl : zs.length ≤ 9223372036854775807 := by have := hx.1; have := hx.2.1; unfold maxLen at this; omega
  have HX := Lib.hid hx
  clear hx
  by_cases h20 : zs.length ≤ 1048576
  · go_enter Try.func6, Try.ntmps6
    go_wp2_with fail
    refine (drawLoopsOf_any _ _ _ _ hr HX.out).mono ?_
    rintro e w1 ⟨B, d, rs, rfl, h6, hdc, htw, ho, hb1⟩
    have HM := Lib.hid (show ∀ r ∈ rs, r.length ≤ 1000000000 from fun r h => by have := htw r h; omega)
    obtain ⟨V, hV⟩ := exists_loo rs
    have hVl := hV.len
    have HV := Lib.hid hV
    have HO := Lib.hid ho
    have HB1 := Lib.hid hb1
    have s1 := hb1.size
    clear htw hV hb1 hr
    go_wp2_with fail
    refine (impLoopsOf_any _ _ _ _ _ HO.out HM.out HV.out).mono ?_
    rintro e w2 ⟨A2, c2, rfl, hc2, o2, hb2⟩
    have HB2 := Lib.hid hb2
    have O2 := Lib.hid o2
    have HO2 := Lib.hid (HO.out.past hb2)
    clear o2 hb2 hc2 ho
    go_wp2_with fail
    refine (specLoopsOf_any _ _ _ _ _ HO2.out (by omega) HM.out HV.out).mono ?_
    rintro e w3 ⟨A3, c3, rfl, hc3, o3, hb3⟩
    have HB3 := Lib.hid hb3
    have O3 := Lib.hid (And.intro (O2.out.keep (Nat.le_refl _) hb3) o3)
    have HO3 := Lib.hid (HO2.out.past hb3)
    clear o3 hb3 hc3
    go_wp2_with fail
    refine (equalInts_one _ _ _ _ V w3 (O3.out.1.row.more HB3.out.size) O3.out.2.row (by omega)).mono ?_
    rintro e w4 ⟨rfl, hb4⟩
    have HB4 := Lib.hid hb4
    have O4 := Lib.hid (O3.out.1.keep HB3.out.size hb4)
    have HO4 := Lib.hid (HO3.out.past hb4)
    clear hb4
    go_wp2_with fail
    refine (impValidGroups_any _ _ _ _ HO4.out HM.out).mono ?_
    rintro e w' ⟨rfl, rfl⟩
    have HBB := Lib.hid (HB1.out.trans ((HB2.out.mono s1).trans ((HB3.out.mono (by have := HB2.out.size; omega)).trans (HB4.out.mono (by have := HB2.out.size; have := HB3.out.size; omega)))))
    by_cases hg : groupsB rs = true
    · rw [hg]
      have HG := Lib.hid hg
      have HUP := Lib.hid HV.out.up
      obtain ⟨pl0, hpl0⟩ : ∃ b, decide (rs.length = 0) = b := ⟨_, rfl⟩
      have hpl1 : ((rs.length : Int) == 0) = pl0 := by rw [← hpl0, Bool.eq_iff_iff, beq_iff_eq, decide_eq_true_eq]; omega
      have HPL := Lib.hid hpl0
      clear hg hpl0
      go_wp2_with fail
      clear hpl1
      go_loopw [5, 6] (fun v i wr => ∃ (k : Nat) (b : Bool), k ≤ rs.length ∧ i = .int .i64 k ∧ v = .bool b ∧ Hid (b = (pl0 || (rs.take k).any (pplB rs.length))) ∧ wr = w4) (fun _ i _ => rs.length - (intOf i).toNat)
      case atStart => exact ⟨0, pl0, by omega, rfl, rfl, Lib.hid (by simp), rfl⟩
      case round =>
        obtain ⟨k, b, hk, rfl, rfl, HB, rfl⟩ := hrel
        by_cases hlt : k < rs.length
        · obtain ⟨bb, o, R, c1, rfl, hb0, hcell, hc1, hrow⟩ := HO4.out.open hlt
          have HT := Lib.hid (List.take_succ_eq_append_getElem hlt)
          have hsz := HM.out _ (List.getElem_mem hlt)
          obtain ⟨r, hre⟩ : ∃ r, rs[k] = r := ⟨_, rfl⟩
          rw [hre] at hcell hrow HT hsz
          have hkI : (k : Int) < (rs.length : Int) := by omega
          have HR := Lib.hid hrow
          clear hre hc1 hrow
          go_wp2_with fail
          go_loopw [7, 8] (fun v i wr' => ∃ (j : Nat) (p : Bool), j ≤ r.length ∧ i = .int .i64 j ∧ v = .bool p ∧ Hid (p = pplB rs.length (r.take j)) ∧ wr' = wr) (fun _ i _ => r.length - (intOf i).toNat)
          case atStart => exact ⟨0, true, by omega, rfl, rfl, Lib.hid (by simp [pplB]), rfl⟩
          case round =>
            obtain ⟨j, p, hj, rfl, rfl, HP, rfl⟩ := hrel
            by_cases hlj : j < r.length
            · obtain ⟨b', o', rfl, hb', hc'⟩ := HR.out.open (by simp; omega)
              have q0 := ints_at hc' hlj
              have HTK := Lib.hid (all_take (p := fun z => decide ((rs.length : Int) ≤ z)) hlj)
              have hjI : (j : Int) < (r.length : Int) := by omega
              obtain ⟨z, hz⟩ : ∃ z, r[j] = z := ⟨_, rfl⟩
              rw [hz] at q0 HTK
              clear hc' hz
              cases p with
              | true =>
                by_cases hzn : (rs.length : Int) ≤ z
                · have t1 : decide ((rs.length : Int) ≤ z) = true := decide_eq_true hzn
                  have HN := Lib.hid (show true = pplB rs.length (r.take (j + 1)) by rw [pplB, HTK.out, ← pplB, ← HP.out, decide_eq_true hzn]; rfl)
                  clear hzn
                  go_wp2_with fail
                  go_roundw
                  case rel => exact ⟨j + 1, true, by omega, by go_num, rfl, Lib.hid HN.out, trivial⟩
                  case measure => simp [intOf]; omega
                · have t1 : decide ((rs.length : Int) ≤ z) = false := decide_eq_false hzn
                  have HN := Lib.hid (show false = pplB rs.length (r.take (j + 1)) by rw [pplB, HTK.out, decide_eq_false hzn, Bool.and_false])
                  clear hzn
                  go_wp2_with fail
                  go_roundw
                  case rel => exact ⟨j + 1, false, by omega, by go_num, rfl, Lib.hid HN.out, trivial⟩
                  case measure => simp [intOf]; omega
              | false =>
                have HN := Lib.hid (show false = pplB rs.length (r.take (j + 1)) by rw [pplB, HTK.out, ← pplB, ← HP.out]; rfl)
                go_wp2_with fail
                go_roundw
                case rel => exact ⟨j + 1, false, by omega, by go_num, rfl, Lib.hid HN.out, trivial⟩
                case measure => simp [intOf]; omega
            · have hje : j = r.length := by omega
              subst hje
              have HN := Lib.hid (show (b || p) = (pl0 || (rs.take (k + 1)).any (pplB rs.length)) by
                have hp := HP.out
                rw [List.take_length] at hp
                rw [HT.out, List.any_append, HB.out, hp]; simp [Bool.or_assoc])
              cases b with
              | true =>
                go_wp2_with fail
                go_roundw
                case rel => exact ⟨k + 1, true, by omega, by go_num, rfl, Lib.hid (by rw [← HN.out]; rfl), trivial⟩
                case measure => simp [intOf]; omega
              | false =>
                go_wp2_with fail
                go_roundw
                case rel => exact ⟨k + 1, p, by omega, by go_num, rfl, Lib.hid (by rw [← HN.out]; rfl), trivial⟩
                case measure => simp [intOf]; omega
        · have hke : k = rs.length := by omega
          subst hke
          have HAS := Lib.hid (fun (X : World) (hX : X = wr) => ascends_any A2 c2 V X (by rw [hX]; exact O4.out.row.more (by have := HB4.out.size; have := HB3.out.size; omega)) (by omega) HUP.out)
          by_cases hV0 : 0 < V.length
          · have t1 : decide (0 < V.length) = true := decide_eq_true hV0
            have t2 : decide ((0 : Int) < (V.length : Int)) = true := decide_eq_true (by omega)
            have HA2 := Lib.hid (HAS.out wr rfl)
            clear hV0
            go_wp2_with (go_at_call 24; (with_reducible refine HA2.out.mono ?_); rintro e w' ⟨rfl, n, rfl⟩)
            go_ret
            exact ⟨rfl, below_drewN HBB.out n⟩
          · have t1 : decide (0 < V.length) = false := decide_eq_false hV0
            have t2 : decide ((0 : Int) < (V.length : Int)) = false := decide_eq_false (by omega)
            have hbt : b = true := by
              rw [HB.out, List.take_length, Bool.or_eq_true]
              by_cases hr0 : rs.length = 0
              · left; rw [← HPL.out]; exact decide_eq_true hr0
              · right
                rw [List.any_eq_true]
                refine Classical.byContradiction fun hno => ?_
                refine loops_some HV.out HG.out (by omega) (fun i hi => ?_) (List.eq_nil_of_length_eq_zero (by omega))
                cases hpp : pplB rs.length rs[i] with
                | false => rfl
                | true => exact absurd ⟨_, List.getElem_mem hi, hpp⟩ hno
            subst hbt
            have HA2 := Lib.hid (HAS.out wr rfl)
            clear hV0
            go_wp2_with (go_at_call 24; (with_reducible refine HA2.out.mono ?_); rintro e w' ⟨rfl, n, rfl⟩)
            go_ret
            exact ⟨rfl, below_drewN HBB.out n⟩
    · have hg' : groupsB rs = false := by simpa using hg
      rw [hg']
      clear hg hg'
      go_wp2_with fail
      refine (specLoopsOf_any _ _ _ _ _ HO4.out (by omega) HM.out HV.out).mono ?_
      rintro e w5 ⟨A5, c5, rfl, hc5, o5, hb5⟩
      have HB5 := Lib.hid (HBB.out.trans (hb5.mono HBB.out.size))
      have O5 := Lib.hid (And.intro (O4.out.keep (by have := HB4.out.size; have := HB3.out.size; omega) hb5) (And.intro o5 hb5.size))
      clear o5 hb5 hc5
      go_wp2_with fail
      refine (equalInts_one _ _ _ _ V w5 (O5.out.1.row.more (by have := O5.out.2.2; have := HB4.out.size; have := HB3.out.size; omega)) O5.out.2.1.row (by omega)).mono ?_
      rintro e w6 ⟨rfl, hb6⟩
      have HB6 := Lib.hid (HB5.out.trans (hb6.mono HB5.out.size))
      clear hb6
      go_wp2_with fail
      go_ret
      exact ⟨rfl, HB6.out⟩
  · go_enter Try.func6, Try.ntmps6
    go_wp2
    go_ret
    exact ⟨rfl, Below.refl _ _⟩
end Go.Proofs.Ytldbefmiabgkhab
