/- The walk of the law FnNotPaid. No condition. -/
import Derived.Test.YtookdmdlpglbcabYs
import Derived.Test.YtookdmdlpglbcabYo
import Derived.Test.YtookdmdlpglbcabYh
import Derived.Test.YtookdmdlpglbcabAs
import Derived.Test.YtookdmdlpglbcabEq
import Derived.Test.YtookdmdlpglbcabYl
namespace Go.Proofs.Ytookdmdlpglbcab
open Go.RowKit

theorem npV_two {a b : Nat} (ha : 1 ≤ a) (hb : 1 ≤ b) : npV [(a : Int), (b : Int)] = (np2 a b).map (fun (r : Nat) => (r : Int)) := by
  unfold npV npOf np2
  congr 1
  apply List.filter_congr
  intro r _
  have h := rep2_iff ha hb r
  have hbd := fw_bd [(a : Int), (b : Int)] (by intro s hs; simp at hs; omega) r
  cases hr : rep2 a b r with
  | true => rw [h] at hr; simp; omega
  | false =>
    have : ¬ 0 ≤ fw [(a : Int), (b : Int)] r := fun h2 => by rw [h.2 h2] at hr; cases hr
    simp; omega
theorem npV_mem {v : List Int} {z : Int} (h : z ∈ npV v) : ∃ n : Nat, z = n ∧ n ≤ 140 ∧ fw v n = -1 := by
  simp only [npV, npOf, List.mem_map, List.mem_filter, beq_iff_eq] at h
  obtain ⟨n, ⟨h1, h2⟩, rfl⟩ := h
  simp only [List.mem_range'] at h1
  obtain ⟨i, hi, rfl⟩ := h1
  exact ⟨_, rfl, by omega, h2⟩
theorem npV_up (v : List Int) : (npV v).Pairwise (· < ·) := by
  unfold npV npOf
  rw [List.pairwise_map]
  refine List.Pairwise.imp (R := (· < ·)) (fun h => Int.ofNat_lt.2 h) ?_
  exact List.Pairwise.filter _ List.pairwise_lt_range'
theorem specNP_ret (A : Option Addr) (c : Nat) (zs : List Int) (w : World) (hr : Ints w w.heap.size A zs) (hl : zs.length ≤ 9000000000000000000) (q : List Int) (hq : npaV zs = q) :
    Calls Try.prog 29 #[.slice A zs.length c] w (iRes w q) := by
  rw [← hq]; exact specNotPaid_any A c zs w hr hl
theorem impNP_ret (A : Option Addr) (c : Nat) (zs : List Int) (w : World) (hr : Ints w w.heap.size A zs) (q : List Int) (hq : npaV zs = q) :
    Calls Try.prog 28 #[.slice A zs.length c] w (iRes w q) := by
  rw [← hq]; exact impNotPaid_any A c zs w hr

set_option maxRecDepth 100000 in
set_option maxHeartbeats 1000000 in
theorem divisor_any (a b : Nat) (w : World) (ha : a ≤ 100) (hb : b ≤ 100) :
    Calls Try.prog 31 #[.int .i64 (a : Int), .int .i64 (b : Int)] w fun e w' => e = .returned (.int .i64 (Nat.gcd a b : Int)) ∧ w = w' := by
  go_enter Try.func31, Try.ntmps31
  go_wp2
  go_loop [0, 1] (fun i k => ∃ x y : Nat, i = .int .i64 (x : Int) ∧ k = .int .i64 (y : Int) ∧ x ≤ 100 ∧ y ≤ 100 ∧ Nat.gcd x y = Nat.gcd a b) (fun _ k => (intOf k).toNat)
  case atStart => exact ⟨a, b, rfl, rfl, ha, hb, rfl⟩
  case round =>
    obtain ⟨x, y, rfl, rfl, hx, hy, hg⟩ := hrel
    have HG := Lib.hid hg
    clear hg
    by_cases hy0 : y = 0
    · subst hy0
      have HE := Lib.hid (show Nat.gcd a b = x by rw [← HG.out]; simp)
      have hb0 : (((0 : Nat) : Int) != 0) = false := rfl
      have hmx : max (x : Int) (-(x : Int)) = (x : Int) := by omega
      have hwn : IntKind.i64.wrap (-(x : Int)) = -(x : Int) := IntWalk.i64_in _ (by omega)
      go_wp2
      go_ret
      exact ⟨ret_int (by rw [HE.out]), rfl⟩
    · have hyb : ((y : Int) != 0) = true := by simp; omega
      have hyz : ¬ (y : Int) = 0 := by omega
      have htm : Int.tmod (x : Int) (y : Int) = ((x % y : Nat) : Int) := by rw [Int.tmod_eq_emod_of_nonneg (by omega)]; exact (Int.natCast_emod x y).symm
      have hml : x % y < y := Nat.mod_lt _ (by omega)
      have hw : IntKind.i64.wrap (((x % y : Nat)) : Int) = ((x % y : Nat) : Int) := IntWalk.i64_in _ (by omega)
      have HN := Lib.hid (show Nat.gcd y (x % y) = Nat.gcd a b by rw [← HG.out, Nat.gcd_comm y, ← Nat.gcd_rec, Nat.gcd_comm])
      obtain ⟨r, hr⟩ : ∃ r, x % y = r := ⟨_, rfl⟩
      rw [hr] at htm hml hw HN
      clear hr
      go_wp2
      go_round
      case rel => exact ⟨y, r, rfl, rfl, hy, by omega, HN.out⟩
      case measure => simp [intOf]; omega

theorem equalInts_self (A B : Option Addr) (c d : Nat) (q : List Int) (w : World) (hx : Ints w w.heap.size A q) (hy : Ints w w.heap.size B q) (hl : q.length ≤ 1000000) :
    Calls Try.prog 26 #[.slice A q.length c, .slice B q.length d] w fun e w' => e = .returned (.bool true) ∧ ∃ n, w' = w.drewN n := by
  have := equalInts_any A B c d q q w hx hy (by omega)
  rw [eqISelf] at this; exact this

theorem getD_nat {l : List Nat} {k : Nat} (h : k < l.length) : l.getD k 0 = l[k] := by simp [List.getElem?_eq_getElem h]
set_option maxRecDepth 100000 in
set_option maxHeartbeats 8000000 in
theorem fnNotPaid_law (A : Option Addr) (c : Nat) (zs : List Int) (w : World) (hr : Own w 0 w.heap.size A (zs.map (Value.int .u8))) (hx : zs.length ≤ c ∧ c ≤ maxLen ∧ ∀ z ∈ zs, (Lit.int .u8 z).wf = true) :
    Calls Try.prog 8 #[.slice A zs.length c] w fun e w' => e = .returned (.bool true) ∧ Below w.heap.size w w' := by
  have hl : zs.length ≤ 9223372036854775807 := by have := hx.1; have := hx.2.1; unfold maxLen at this; omega
  have HX := Lib.hid hx
  clear hx
  by_cases h20 : zs.length ≤ 1048576
  · go_enter Try.func8, Try.ntmps8
    go_wp2_with fail
    refine (drawNotPaid_any _ _ _ _ hr HX.out).mono ?_
    rintro e w1 ⟨B, d, rs, rfl, h6, hdc, hsm, ho, hb1⟩
    obtain ⟨q, hq⟩ : ∃ q, npaV rs = q := ⟨_, rfl⟩
    have HQ := Lib.hid hq
    have hql : q.length ≤ 140 := by
      rw [← hq]; unfold npaV
      split
      · exact npV_len rs
      · simp
    clear hsm hq
    go_wp2_with fail
    refine (impNP_ret _ _ _ _ ho _ HQ.out).mono ?_
    rintro e w2 ⟨A2, c2, rfl, hc2, hq2, hb2⟩
    have ho2 := ho.past hb2
    have HB2 := Lib.hid (hb1.trans (hb2.mono hb1.size))
    clear hb1 hb2 ho
    go_wp2_with fail
    refine (specNP_ret _ _ _ _ ho2 (by omega) _ HQ.out).mono ?_
    rintro e w3 ⟨A3, c3, rfl, hc3, hq3, hb3⟩
    have ho3 := ho2.past hb3
    have hq23 := hq2.past hb3
    have HB3 := Lib.hid (HB2.out.trans (hb3.mono HB2.out.size))
    clear hb3 ho2 hq2
    go_wp2_with fail
    refine (equalInts_self _ _ _ _ q _ hq23.row hq3.row (by omega)).mono ?_
    rintro e w4 ⟨rfl, n4, rfl⟩
    have hbd := drewBelow w3 n4
    have ho4 := ho3.past hbd
    have hq24 := hq23.row.past hbd
    have HB4 := Lib.hid (HB3.out.trans (hbd.mono HB3.out.size))
    obtain ⟨w4, hw4⟩ : ∃ w4, w3.drewN n4 = w4 := ⟨_, rfl⟩
    rw [hw4] at ho4 hq24 HB4 hbd ⊢
    clear hw4 hbd ho3 hq23 hq3
    by_cases hv : stampsB rs = true
    · have HV := Lib.hid hv
      have hlen := stampsB_len hv
      have HNP := Lib.hid (show npV rs = q by rw [← npaV_yes hv]; exact HQ.out)
      go_wp2_with fail
      refine (impVS_ret _ _ _ _ ho4 true hv).mono ?_
      rintro e w5 ⟨rfl, rfl⟩
      clear hv
      go_wp2
      go_loopw [5] (fun i wr => ∃ k : Nat, k ≤ q.length ∧ i = .int .i64 k ∧ Below w4.heap.size w4 wr) (fun i _ => q.length - (intOf i).toNat)
      case atStart => exact ⟨0, by omega, rfl, Below.refl _ _⟩
      case round =>
        obtain ⟨k, hk, rfl, hbr⟩ := hrel
        have hor := ho4.past hbr
        have hqr := hq24.past hbr
        have HBR := Lib.hid hbr
        by_cases hlt : k < q.length
        · obtain ⟨b, o, rfl, hb, hc⟩ := hqr.open (by rw [List.length_map]; omega)
          have hcell := ints_at hc hlt
          have hmem : q[k] ∈ npV rs := by rw [HNP.out]; exact List.getElem_mem hlt
          obtain ⟨n, hn, hn140, hfn⟩ := npV_mem hmem
          rw [hn] at hcell
          have HF := Lib.hid (show fewV rs (n : Int) = -1 by rw [fewV_yes HV.out (inRI.2 (by omega))]; exact hfn)
          clear hc hmem hn hfn hbr
          go_wp2_with fail
          refine (impFS_ret _ _ _ _ _ hor _ HF.out).mono ?_
          rintro e w6 ⟨rfl, hb6⟩
          have HB6 := Lib.hid (HBR.out.trans (hb6.mono HBR.out.size))
          clear hb6 hor hqr
          go_wp2
          go_roundw
          case rel => exact ⟨k + 1, by omega, by go_num, HB6.out⟩
          case measure => simp [intOf]; omega
        · have HFIN := Lib.hid (HB4.out.trans (HBR.out.mono HB4.out.size))
          by_cases h2 : rs.length = 2
          · obtain ⟨a, b, hab⟩ : ∃ a b : Int, rs = [a, b] := by
              match rs, h2 with
              | [a, b], _ => exact ⟨a, b, rfl⟩
            subst hab
            have ha12 := stamp_mem HV.out (s := a) (by simp)
            have hb12 := stamp_mem HV.out (s := b) (by simp)
            have hlt2 := stamp_up HV.out (k := 0) (by simp)
            simp only [List.getElem_cons_zero, Nat.zero_add, List.getElem_cons_succ] at hlt2
            obtain ⟨x, rfl⟩ := Int.eq_ofNat_of_zero_le (show 0 ≤ a by omega)
            obtain ⟨y, rfl⟩ := Int.eq_ofNat_of_zero_le (show 0 ≤ b by omega)
            obtain ⟨bv, ov, rfl, hbv, hcv⟩ := hor.open (by simp)
            have hx0 := ints_at hcv (show 0 < [(x : Int), (y : Int)].length by simp)
            have hy0 := ints_at hcv (show 1 < [(x : Int), (y : Int)].length by simp)
            simp only [List.getElem_cons_zero, List.getElem_cons_succ, Nat.add_zero] at hx0 hy0
            have HD := Lib.hid (fun n => (divisor_any x y (wr.drewN n) (by omega) (by omega)).mono fun _ _ ⟨h1, h2⟩ => (⟨h1, h2.symm⟩ : _ ∧ _))
            obtain ⟨g, hg⟩ : ∃ g, Nat.gcd x y = g := ⟨_, rfl⟩
            rw [hg] at HD
            have hlen2 : ([(x : Int), (y : Int)] : List Int).length = 2 := rfl
            have h22 : ((((2 : Nat) : Int)) != 2) = false := rfl
            by_cases hg1 : g = 1
            · subst hg1
              have hx1 : 1 ≤ x := by omega
              have hy1 : 1 ≤ y := by omega
              have hok := np2_fin ⟨x, by omega⟩ ⟨y, by omega⟩ (by simp only [Bool.and_eq_true, Nat.blt_eq, Nat.beq_eq]; exact ⟨⟨by omega, by omega⟩, hg⟩)
              have hqq : q = (np2 x y).map (fun (r : Nat) => (r : Int)) := by rw [← HNP.out]; exact npV_two hx1 hy1
              have hqlen : q.length = (np2 x y).length := by rw [hqq, List.length_map]
              simp only [np2ok, Bool.and_eq_true, Bool.or_eq_true, Nat.beq_eq] at hok
              rw [← hqlen] at hok
              obtain ⟨hk1, hk2⟩ := hok
              obtain ⟨P, hP⟩ : ∃ P, (x - 1) * (y - 1) = P := ⟨_, rfl⟩
              have hPb : P ≤ 11 * 11 := by rw [← hP]; exact Nat.mul_le_mul (by omega) (by omega)
              have hx1i : (x : Int) - 1 = ((x - 1 : Nat) : Int) := by omega
              have hy1i : (y : Int) - 1 = ((y - 1 : Nat) : Int) := by omega
              have hPi : ((x : Int) - 1) * ((y : Int) - 1) = (P : Int) := by rw [hx1i, hy1i, ← hP]; exact (Int.natCast_mul _ _).symm
              have hw1 : IntKind.i64.wrap ((x : Int) - 1) = (x : Int) - 1 := IntWalk.i64_in _ (by omega)
              have hw2 : IntKind.i64.wrap ((y : Int) - 1) = (y : Int) - 1 := IntWalk.i64_in _ (by omega)
              have hw3 : IntKind.i64.wrap (((x : Int) - 1) * ((y : Int) - 1)) = (P : Int) := by rw [hPi]; exact IntWalk.i64_in _ (by omega)
              have hq2i : Int.tdiv (P : Int) 2 = (q.length : Int) := by rw [Int.tdiv_eq_ediv_of_nonneg (by omega), ← (show P / 2 = q.length from by rw [hk1, hP])]; rfl
              have hw4 : IntKind.i64.wrap (q.length : Int) = (q.length : Int) := IntWalk.i64_in _ (by omega)
              have hqqb : ((q.length : Int) == (q.length : Int)) = true := by simp
              have hg11 : (((1 : Nat) : Int) != 1) = false := rfl
              obtain ⟨M, hM⟩ : ∃ M, x * y = M := ⟨_, rfl⟩
              have hMb : M ≤ 12 * 12 := by rw [← hM]; exact Nat.mul_le_mul (by omega) (by omega)
              have hMi : (x : Int) * (y : Int) = (M : Int) := by rw [← hM]; exact (Int.natCast_mul _ _).symm
              have hw5 : IntKind.i64.wrap ((x : Int) * (y : Int)) = (M : Int) := by rw [hMi]; exact IntWalk.i64_in _ (by omega)
              have hw6 : IntKind.i64.wrap ((M : Int) - (x : Int)) = (M : Int) - (x : Int) := IntWalk.i64_in _ (by omega)
              have hw7 : IntKind.i64.wrap ((M : Int) - (x : Int) - (y : Int)) = (M : Int) - (x : Int) - (y : Int) := IntWalk.i64_in _ (by omega)
              by_cases hq0 : q.length = 0
              · have hq0b : ((q.length : Int) == 0) = true := beq_iff_eq.2 (by omega)
                clear h2 hbr hor hqr ho4 hq24 hg hcv hk1 hk2 hP hPb hx1i hy1i hPi hM hMb hMi hqq hqlen hq0
                go_wp2
                go_quiet ((go_at_call 31; with_reducible exact Calls.quiet_of_same (HD.out _)))
                rename_i nq
                go_wp2
                have hx0n : (wr.drewN nq).cell? ⟨bv, ov, none⟩ = some (.int .i64 (x : Int)) := hx0
                have hy0n : (wr.drewN nq).cell? ⟨bv, ov + 1, none⟩ = some (.int .i64 (y : Int)) := hy0
                have HN := Lib.hid (below_drewN HFIN.out nq)
                obtain ⟨wn, hwn⟩ : ∃ wn, wr.drewN nq = wn := ⟨_, rfl⟩
                rw [hwn] at hx0n hy0n HN ⊢
                clear hwn
                go_quiet (fail)
                go_wp2
                go_ret
                exact ⟨rfl, below_drewN HN.out _⟩
              · have hq0b : ((q.length : Int) == 0) = false := beq_eq_false_iff_ne.2 (by omega)
                obtain ⟨p, hp⟩ : ∃ p, q.length - 1 = p := ⟨_, rfl⟩
                obtain ⟨bq, oq, rfl, hbq, hcq⟩ := hqr.open (by rw [List.length_map]; omega)
                have hcp := ints_at hcq (show p < q.length by omega)
                have hz : q[p]'(by omega) = (M : Int) - (x : Int) - (y : Int) := by
                  have h3 := hk2.resolve_left hq0
                  rw [hp, hM] at h3
                  have h4 : q[p]'(by omega) = (((np2 x y)[p]'(by omega) : Nat) : Int) := by simp only [hqq, List.getElem_map]
                  rw [getD_nat (show p < (np2 x y).length by omega)] at h3
                  rw [h4]; omega
                rw [hz] at hcp
                have hsub : (q.length : Int) - 1 = (p : Int) := by omega
                have hwp : IntKind.i64.wrap ((q.length : Int) - 1) = (p : Int) := by rw [hsub]; exact IntWalk.i64_in _ (by omega)
                have hpl : (p : Int) < (q.length : Int) := by omega
                have hzz : (((M : Int) - (x : Int) - (y : Int)) == ((M : Int) - (x : Int) - (y : Int))) = true := by simp
                clear h2 hbr hor hqr ho4 hq24 hg hcv hk1 hk2 hP hPb hx1i hy1i hPi hM hMb hMi hqq hqlen hq0 hp hcq hz hsub
                go_wp2
                go_quiet ((go_at_call 31; with_reducible exact Calls.quiet_of_same (HD.out _)))
                rename_i nq
                go_wp2
                have hx0n : (wr.drewN nq).cell? ⟨bv, ov, none⟩ = some (.int .i64 (x : Int)) := hx0
                have hy0n : (wr.drewN nq).cell? ⟨bv, ov + 1, none⟩ = some (.int .i64 (y : Int)) := hy0
                have hcpn : (wr.drewN nq).cell? ⟨bq, oq + p, none⟩ = some (.int .i64 ((M : Int) - (x : Int) - (y : Int))) := hcp
                have HN := Lib.hid (below_drewN HFIN.out nq)
                obtain ⟨wn, hwn⟩ : ∃ wn, wr.drewN nq = wn := ⟨_, rfl⟩
                rw [hwn] at hx0n hy0n hcpn HN ⊢
                clear hwn
                go_quiet (fail)
                go_wp2
                go_ret
                exact ⟨rfl, below_drewN HN.out _⟩
            · have hgb : ((g : Int) != 1) = true := by simp; omega
              have hasc := fun n => ascends_any A2 c2 q (wr.drewN n) (hqr.past (drewBelow wr n)) (by omega) (by rw [← HNP.out]; exact npV_up _)
              have HAS := Lib.hid hasc
              clear h2 hasc hbr hor hqr ho4 hq24 hg hcv
              go_wp2
              go_quiet ((go_at_call 31; with_reducible exact Calls.quiet_of_same (HD.out _)))
              rename_i nq
              go_wp2_with fail
              refine (HAS.out _).mono ?_
              rintro e w6 ⟨rfl, n6, rfl⟩
              go_wp2
              go_ret
              exact ⟨rfl, below_drewN HFIN.out _⟩
          · have h2b : ((rs.length : Int) != 2) = true := by simp; omega
            have hasc := fun n => ascends_any A2 c2 q (wr.drewN n) (hqr.past (drewBelow wr n)) (by omega) (by rw [← HNP.out]; exact npV_up rs)
            have HAS := Lib.hid hasc
            clear h2 hasc hbr hor hqr ho4 hq24
            go_wp2
            go_quiet (fail)
            rename_i nq
            go_wp2_with fail
            refine (HAS.out _).mono ?_
            rintro e w6 ⟨rfl, n6, rfl⟩
            go_wp2
            go_ret
            exact ⟨rfl, below_drewN HFIN.out _⟩
    · have hv' : stampsB rs = false := by simpa using hv
      clear hv
      go_wp2_with fail
      refine (impVS_ret _ _ _ _ ho4 false hv').mono ?_
      rintro e w5 ⟨rfl, rfl⟩
      clear hv'
      go_wp2_with fail
      refine (specNP_ret _ _ _ _ ho4 (by omega) _ HQ.out).mono ?_
      rintro e w6 ⟨A6, c6, rfl, hc6, hq6, hb6⟩
      have hq26 := hq24.past hb6
      have HB6 := Lib.hid (HB4.out.trans (hb6.mono HB4.out.size))
      clear hb6
      go_wp2_with fail
      refine (equalInts_self _ _ _ _ q _ hq26 hq6.row (by omega)).mono ?_
      rintro e w7 ⟨rfl, n7, rfl⟩
      go_wp2
      go_ret
      exact ⟨rfl, below_drewN HB6.out _⟩
  · go_enter Try.func8, Try.ntmps8
    go_wp2
    go_ret
    exact ⟨rfl, Below.refl _ _⟩
end Go.Proofs.Ytookdmdlpglbcab
