/- The walk of the law FnReadOrder. No condition. -/
import Derived.Test.YtldbefmiabgkhaaTr
import Derived.Test.YtldbefmiabgkhaaEo
import Derived.Test.YtldbefmiabgkhaaTt
import Derived.Test.YtldbefmiabgkhaaDf
namespace Go.Proofs.Ytldbefmiabgkhaa
open Go.RowKit

set_option maxRecDepth 100000 in
set_option maxHeartbeats 1000000 in
theorem lawPlace_at (A : Option Addr) (c : Nat) (zs : List Int) (x : Int) (w : World) (hr : Ints w w.heap.size A zs) (hl : zs.length ≤ 1000000000) (K : Nat) (hK : K < zs.length) (hx : zs.getD K 0 = x) (hn : ∀ j, j < K → zs.getD j 0 ≠ x) :
    Calls Try.prog 32 #[.slice A zs.length c, .int .i64 x] w fun e w' => e = .returned (.int .i64 (K : Int)) ∧ w = w' := by
  have HX := Lib.hid hx
  have HN := Lib.hid hn
  have HK := Lib.hid hK
  clear hx hn hK
  go_enter Try.func32, Try.ntmps32
  go_wp2
  go_loop [5] (fun i => ∃ k : Nat, k ≤ K ∧ i = .int .i64 k) (fun i => zs.length - (intOf i).toNat)
  case atStart => exact ⟨0, by omega, rfl⟩
  case round =>
    obtain ⟨k, hk, rfl⟩ := hrel
    have hlt : k < zs.length := by have := HK.out; omega
    obtain ⟨b, o, rfl, hb, hc⟩ := hr.open (by simp; omega)
    have hcell := ints_at hc hlt
    have HZ := Lib.hid (getD_get hlt)
    have hkI : (k : Int) < zs.length := by omega
    obtain ⟨z, hz⟩ : ∃ z, zs[k] = z := ⟨_, rfl⟩
    rw [hz] at hcell HZ
    clear hc hz
    by_cases hkk : k = K
    · have ht : (z == x) = true := by rw [← HZ.out, hkk, HX.out]; simp
      have HF := Lib.hid (show (k : Int) = (K : Int) by rw [hkk])
      clear hkk
      go_wp2
      go_ret
      exact ⟨ret_int HF.out, rfl⟩
    · have ht : (z == x) = false := by have := HN.out k (by omega); rw [HZ.out] at this; simpa using this
      go_wp2
      go_round
      case rel => exact ⟨k + 1, by omega, by go_num⟩
      case measure => simp [intOf]; omega


set_option maxRecDepth 100000 in
set_option maxHeartbeats 8000000 in
theorem readOrder_law (A : Option Addr) (c : Nat) (zs : List Int) (w : World) (hr : Own w 0 w.heap.size A (zs.map (Value.int .u8))) (hx : zs.length ≤ c ∧ c ≤ maxLen ∧ ∀ z ∈ zs, (Lit.int .u8 z).wf = true) :
    Calls Try.prog 9 #[.slice A zs.length c] w fun e w' => e = .returned (.bool true) ∧ Below w.heap.size w w' := by
  have hl : zs.length ≤ 9223372036854775807 := by have := hx.1; have := hx.2.1; unfold maxLen at this; omega
  have HX := Lib.hid hx
  clear hx
  by_cases h20 : zs.length ≤ 1048576
  · go_enter Try.func9, Try.ntmps9
    go_wp2_with fail
    refine (drawReadOrder_any _ _ _ _ hr HX.out).mono ?_
    rintro e w1 ⟨B, d, qs, rfl, hq10, hdc, ho, hb1⟩
    have HO := Lib.hid ho
    have HB1 := Lib.hid hb1
    have s1 := hb1.size
    have hVl : (ordL qs).length ≤ 10 := by
      unfold ordL
      split
      · rename_i h; rw [ro_whole (ans_of h)]; exact hq10
      · simp
    obtain ⟨V, hV⟩ : ∃ V, ordL qs = V := ⟨_, rfl⟩
    have HV := Lib.hid hV
    have HI := Lib.hid (fun (X : World) (h : Ints X X.heap.size B qs) => impReadOrder_any B d qs X h (by omega))
    have HS := Lib.hid (fun (X : World) (h : Ints X X.heap.size B qs) => specReadOrder_any B d qs X h (by omega))
    rw [hV] at hVl HI HS
    clear hV hb1 hr ho
    go_wp2_with fail
    refine (HI.out _ HO.out).mono ?_
    rintro e w2 ⟨A2, c2, rfl, hc2, o2, hb2⟩
    have HB2 := Lib.hid hb2
    have O2 := Lib.hid o2
    have HC2 := Lib.hid hc2
    have HO2 := Lib.hid (HO.out.past hb2)
    clear o2 hb2 hc2
    go_wp2_with fail
    refine (HS.out _ HO2.out).mono ?_
    rintro e w3 ⟨A3, c3, rfl, hc3, o3, hb3⟩
    have HB3 := Lib.hid hb3
    have O3 := Lib.hid (And.intro (O2.out.keep (Nat.le_refl _) hb3) o3)
    have HO3 := Lib.hid (HO2.out.past hb3)
    clear o3 hb3 hc3
    go_wp2_with fail
    refine (equalInts_on _ _ _ _ V w3 (O3.out.1.row.more HB3.out.size) O3.out.2.row (by omega)).mono ?_
    rintro e w4 ⟨rfl, hb4⟩
    have HB4 := Lib.hid hb4
    have O4 := Lib.hid (show Ints w4 w4.heap.size A2 V from ((O3.out.1.keep HB3.out.size hb4).row).more (by have := HB3.out.size; have := hb4.size; omega))
    have HO4 := Lib.hid (HO3.out.past hb4)
    have HBB := Lib.hid (HB1.out.trans ((HB2.out.mono s1).trans ((HB3.out.mono (by have := HB2.out.size; omega)).trans (HB4.out.mono (by have := HB2.out.size; have := HB3.out.size; omega)))))
    clear hb4
    by_cases h0 : V.length = 0
    · have t0 : ((V.length : Int) == 0) = true := by simp [h0]
      clear h0
      go_wp2_with fail
      refine (HS.out _ HO4.out).mono ?_
      rintro e w5 ⟨A5, c5, rfl, hc5, o5, hb5⟩
      have HB5 := Lib.hid (HBB.out.trans (hb5.mono HBB.out.size))
      have O5 := Lib.hid (And.intro (O4.out.past hb5) o5)
      clear o5 hb5 hc5
      go_wp2_with fail
      refine (equalInts_on _ _ _ _ V w5 O5.out.1 O5.out.2.row (by omega)).mono ?_
      rintro e w6 ⟨rfl, hb6⟩
      have HB6 := Lib.hid (HB5.out.trans (hb6.mono HB5.out.size))
      clear hb6
      go_wp2_with fail
      go_ret
      exact ⟨rfl, HB6.out⟩
    · have t0 : ((V.length : Int) == 0) = false := by rw [beq_eq_false_iff_ne]; omega
      have hv : ansB qs = true := by
        cases h : ansB qs with
        | true => rfl
        | false => exact absurd (by rw [← HV.out, ordL_no h]; rfl) h0
      have HAN := Lib.hid (ans_of hv)
      have HVE := Lib.hid (show ro qs (-1) = V by rw [← HV.out, ordL_yes hv])
      have HD := Lib.hid (fun (X : World) (h : Ints X X.heap.size B qs) => impDepthsOf_any B d qs X h (by omega))
      rw [depL_yes hv] at HD
      have hVq : V.length = qs.length := by rw [← HVE.out, ro_whole HAN.out]
      have hpos : 0 < V.length := by omega
      obtain ⟨T, hT⟩ : ∃ T, tab qs.length (dv qs) = T := ⟨_, rfl⟩
      have hTl : T.length = qs.length := by rw [← hT, tab_length]
      rw [hT] at HD
      have HT := Lib.hid hT
      have HVQ := Lib.hid hVq
      have HTL := Lib.hid hTl
      clear h0 hv hVq hT hTl
      go_wp2_with fail
      clear t0
      refine (HD.out _ HO4.out).mono ?_
      rintro e w5 ⟨A5, c5, rfl, hc5, o5, hb5⟩
      have s5 := hb5.size
      have HB5 := Lib.hid (HBB.out.trans (hb5.mono HBB.out.size))
      have O5 := Lib.hid (O4.out.past hb5)
      have HO5 := Lib.hid (HO4.out.past hb5)
      have D5 := Lib.hid o5.row
      obtain ⟨b1, p1, rfl, _, hc1⟩ := HO5.out.open (by simp; have := HVQ.out; omega)
      obtain ⟨b2, p2, rfl, _, hc2⟩ := O5.out.open (by simp; omega)
      obtain ⟨b3, p3, rfl, _, hc3⟩ := D5.out.open (by simp; have := HVQ.out; have := HTL.out; omega)
      rw [← HT.out] at hc3
      have HC := Lib.hid (And.intro (fun k (hk : k < qs.length) => ints_at hc1 hk) (And.intro (fun k (hk : k < V.length) => ints_at hc2 hk) (fun k (hk : k < qs.length) => show w5.cell? ⟨b3, p3 + k, none⟩ = some (.int .i64 (dv qs k)) from hc3 k _ (tab_vals_get hk))))
      clear hb5 o5 hc5 hc1 hc2 hc3
      have HTL2 := Lib.hid (show T.length = V.length by have := HVQ.out; have := HTL.out; omega)
      have HQL2 := Lib.hid (show qs.length = V.length by have := HVQ.out; omega)
      rw [HTL2.out, HQL2.out]
      go_wp2_with fail
      go_loopw [6] (fun i wr => ∃ (k : Nat), k ≤ V.length ∧ i = .int .i64 k ∧ ∃ n, wr = w5.drewN n) (fun i _ => V.length - (intOf i).toNat)
      case atStart => exact ⟨0, by omega, rfl, 0, rfl⟩
      case round =>
        obtain ⟨k, hk, rfl, hwr⟩ := hrel
        have HWR := Lib.hid hwr
        have HCW := Lib.hid (show (∀ k (hk : k < qs.length), wr.cell? ⟨b1, p1 + k, none⟩ = some (.int .i64 qs[k])) ∧ (∀ k (hk : k < V.length), wr.cell? ⟨b2, p2 + k, none⟩ = some (.int .i64 V[k])) ∧ (∀ k (hk : k < qs.length), wr.cell? ⟨b3, p3 + k, none⟩ = some (.int .i64 (dv qs k))) from by obtain ⟨n, hn⟩ := hwr; rw [hn]; exact HC.out)
        have HRW := Lib.hid (show Below w5.heap.size w5 wr from by obtain ⟨n, hn⟩ := hwr; rw [hn]; exact drewBelow _ _)
        clear hwr
        by_cases hlt : k < V.length
        · have hVk : V.getD k 0 = V[k] := getD_get hlt
          have hvm : V[k] ∈ ro qs (-1) := by rw [HVE.out]; exact List.getElem_mem hlt
          obtain ⟨hv1, hv2, v, hv3⟩ := ro_lt HAN.out (by omega) hvm
          have hvn : v < qs.length := by omega
          have y1 := HCW.out.2.1 k hlt
          rw [hv3] at y1 hVk
          have x1 := HCW.out.1 v hvn
          have d1 := HCW.out.2.2 v hvn
          have hdv := dv_bd HAN.out v hvn
          have HZ := Lib.hid (getD_get hvn)
          obtain ⟨z, hz⟩ : ∃ z, qs[v] = z := ⟨_, rfl⟩
          rw [hz] at x1 HZ
          have hzlo := HAN.out.lo v hvn
          have hzhi := HAN.out.hi v hvn
          rw [HZ.out] at hzlo hzhi
          have hvI : (v : Int) < (V.length : Int) := by have := HQL2.out; omega
          have hv0 : (0 : Int) ≤ (v : Int) := by omega
          have hkI : (k : Int) < (V.length : Int) := by omega
          have hk0 : (0 : Int) ≤ (k : Int) := by omega
          have HVK := Lib.hid hVk
          obtain ⟨dk, hdk⟩ : ∃ x, dv qs v = x := ⟨_, rfl⟩
          rw [hdk] at d1 hdv
          have HDK := Lib.hid hdk
          clear hz hvm hv1 hv2 hv3 hVk hdk
          -- the place of what it answers
          have HPL := Lib.hid (show 0 ≤ z → ∃ K, K < k ∧ ∀ m, Calls Try.prog 32 #[.slice (some ⟨b2, p2, none⟩) V.length c2, .int .i64 z] (wr.drewN m) fun e w' => e = .returned (.int .i64 (K : Int)) ∧ wr.drewN m = w' from fun h0 => by
            obtain ⟨K, h1, h2, h3⟩ := ro_before HAN.out (k := k) (v := v) (by have := HQL2.out; omega) (by rw [HVE.out]; exact HVK.out) (by rw [HZ.out]; exact h0)
            rw [HVE.out, HZ.out] at h2 h3
            exact ⟨K, h1, fun m => lawPlace_at _ c2 V z (wr.drewN m) ((O5.out.past HRW.out).below (below_drewN (Below.refl _ _) m)) (by omega) K (by omega) h2 h3⟩)
          -- the one ahead of it
          have HPREV := Lib.hid (show 0 < k → ∃ (m u : Nat) (du : Int), k = m + 1 ∧ m < V.length ∧ u < qs.length ∧ wr.cell? ⟨b2, p2 + m, none⟩ = some (.int .i64 (u : Int)) ∧ wr.cell? ⟨b3, p3 + u, none⟩ = some (.int .i64 du) ∧ 0 ≤ du ∧ du ≤ 10 ∧ dk ≤ du + 1 from fun h0 => by
            obtain ⟨m, rfl⟩ : ∃ m, k = m + 1 := ⟨k - 1, by omega⟩
            have hm : m < V.length := by omega
            have hum : V[m] ∈ ro qs (-1) := by rw [HVE.out]; exact List.getElem_mem hm
            obtain ⟨_, hu2, u, hu3⟩ := ro_lt HAN.out (by omega) hum
            have hb := dv_bd HAN.out u (by omega)
            have had := (deep_all HAN.out).ad m (by rw [HVE.out]; omega)
            rw [HVE.out, HVK.out, getD_get hm, hu3] at had
            simp only [dI, Int.toNat_natCast] at had
            rw [HDK.out] at had
            refine ⟨m, u, dv qs u, rfl, hm, by omega, by rw [← hu3]; exact HCW.out.2.1 m hm, HCW.out.2.2 u (by omega), hb.1, by omega, had⟩)
          by_cases hk00 : k = 0
          · have tk : decide ((0 : Int) < (k : Int)) = false := decide_eq_false (by omega)
            have tkn : decide (0 < k) = false := decide_eq_false (by omega)
            by_cases hz0 : 0 ≤ z
            · obtain ⟨K, hKk, _⟩ := HPL.out hz0
              omega
            · have tz : decide ((0 : Int) ≤ z) = false := decide_eq_false hz0
              clear hz0 hk00
              go_wp2
              go_quiet (fail)
              go_simp
              clear tz tk tkn
              go_wp2
              go_roundw
              case rel => exact ⟨k + 1, by omega, by go_num, by obtain ⟨n, hn⟩ := HWR.out; rw [hn]; exact ⟨_, World.drewN_drewN ..⟩⟩
              case measure => simp [intOf]; omega
          · have tk : decide ((0 : Int) < (k : Int)) = true := decide_eq_true (by omega)
            have tkn : decide (0 < k) = true := decide_eq_true (by omega)
            obtain ⟨m, u, du, hkm, hmV, huq, y2, d2, hdu0, hdu1, hdd⟩ := HPREV.out (by omega)
            have hmI : (k : Int) - 1 = (m : Int) := by omega
            have hmw : IntKind.i64.wrap ((k : Int) - 1) = (m : Int) := by rw [hmI]; exact IntWalk.i64_in _ (by omega)
            have hmV2 : (m : Int) < (V.length : Int) := by omega
            have hm0 : (0 : Int) ≤ (m : Int) := by omega
            have huI : (u : Int) < (V.length : Int) := by have := HQL2.out; omega
            have hu0 : (0 : Int) ≤ (u : Int) := by omega
            have hmw2 : IntKind.i64.wrap (m : Int) = (m : Int) := IntWalk.i64_in _ (by omega)
            have hdw : IntKind.i64.wrap (du + 1) = du + 1 := IntWalk.i64_in _ (by omega)
            have td : decide (du + 1 < dk) = false := decide_eq_false (by omega)
            clear hk00 hkm hdd
            by_cases hz0 : 0 ≤ z
            · obtain ⟨K, hKk, hK⟩ := HPL.out hz0
              have tz : decide ((0 : Int) ≤ z) = true := decide_eq_true hz0
              have tK : decide ((k : Int) ≤ (K : Int)) = false := decide_eq_false (by omega)
              have tKn : decide (k ≤ K) = false := decide_eq_false (by omega)
              have HK := Lib.hid hK
              clear hz0 hK hKk
              go_wp2
              go_quiet ((go_at_call 32; exact Calls.quiet_of ((HK.out _).mono fun _ _ ⟨h1, h2⟩ => ⟨h1, 0, h2.symm⟩)))
              go_simp
              clear tz tk tkn tK tKn td hdw hmI hmw hmw2
              go_wp2
              go_roundw
              case rel => exact ⟨k + 1, by omega, by go_num, by obtain ⟨n, hn⟩ := HWR.out; rw [hn]; exact ⟨_, World.drewN_drewN ..⟩⟩
              case measure => simp [intOf]; omega
            · have tz : decide ((0 : Int) ≤ z) = false := decide_eq_false hz0
              clear hz0
              go_wp2
              go_quiet (fail)
              go_simp
              clear tz tk tkn td hdw hmI hmw hmw2
              go_wp2
              go_roundw
              case rel => exact ⟨k + 1, by omega, by go_num, by obtain ⟨n, hn⟩ := HWR.out; rw [hn]; exact ⟨_, World.drewN_drewN ..⟩⟩
              case measure => simp [intOf]; omega
        · have hke : k = V.length := by omega
          subst hke
          have hv0m : V[0] ∈ ro qs (-1) := by rw [HVE.out]; exact List.getElem_mem hpos
          obtain ⟨_, hv2, v, hv3⟩ := ro_lt HAN.out (by omega) hv0m
          have y1 := HCW.out.2.1 0 hpos
          rw [hv3] at y1
          have d1 := HCW.out.2.2 v (by omega)
          have hd0 := (deep_all HAN.out).hd (by rw [HVE.out]; exact List.length_pos_iff.1 hpos)
          rw [HVE.out, getD_get hpos, hv3] at hd0
          simp only [dI, Int.toNat_natCast] at hd0
          rw [hd0] at d1
          have hvI : (v : Int) < (V.length : Int) := by have := HQL2.out; omega
          have HDF := Lib.hid (diffC_same (T := V) (V := V) (by rw [← HVE.out]; exact ro_once HAN.out (by omega)) (fun x => Iff.rfl))
          have HD2 := Lib.hid (different2_any (some ⟨b2, p2, none⟩) c2 V wr (O5.out.past HRW.out) HC2.out (by omega))
          rw [HDF.out] at HD2
          have hvv : ((V.length : Int) == (V.length : Int)) = true := by simp
          rw [Nat.add_zero] at y1
          clear hv0m hv2 hv3 hd0 hlt
          go_wp2_with fail
          refine HD2.out.mono ?_
          rintro e w8 ⟨rfl, q, rfl⟩
          go_wp2_with fail
          go_ret
          exact ⟨by simp, below_drewN (HB5.out.trans (HRW.out.mono HB5.out.size)) q⟩
  · go_enter Try.func9, Try.ntmps9
    go_wp2
    go_ret
    exact ⟨rfl, Below.refl _ _⟩
end Go.Proofs.Ytldbefmiabgkhaa
