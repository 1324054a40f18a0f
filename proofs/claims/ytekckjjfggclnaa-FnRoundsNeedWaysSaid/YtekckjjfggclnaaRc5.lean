/- impl.RoundCost. No condition. -/
import Derived.Test.YtekckjjfggclnaaRc3
import Derived.Test.YtekckjjfggclnaaRc4
namespace Go.Proofs.Ytekckjjfggclnaa
open Go.RowKit

set_option maxRecDepth 100000 in
set_option maxHeartbeats 8000000 in
theorem impRoundCost_any (A : Option Addr) (c : Nat) (rs : List (List Int)) (n : Int) (w : World) (hr : Grid w 0 w.heap.size A rs) (hs : ∀ r ∈ rs, r.length ≤ 1000000000) {V : Int} (hV : IsRound n rs V) :
    Calls Try.prog 8 #[.int .i64 n, .slice A rs.length c] w fun e w' => e = .returned (.int .i64 V) ∧ Below w.heap.size w w' := by
  have H := Lib.hid (townOf_all A c rs n w hr hs)
  have HV0 := Lib.hid hV
  clear hs hr hV
  cases h : townB n rs with
  | false =>
    have HF := Lib.hid (HV0.out.no h)
    have HT := Lib.hid h
    clear h
    rw [HF.out]
    go_enter Try.func8, Try.ntmps8
    go_wp2_with fail
    refine H.out.mono ?_
    rintro e w1 ⟨_, hp⟩
    obtain ⟨rfl, hb⟩ := hp HT.out
    have HB := Lib.hid hb
    clear hb hp
    go_wp2_with fail
    go_ret
    exact ⟨rfl, HB.out⟩
  | true =>
    have HT := Lib.hid h
    obtain ⟨m, rfl, h1, h5, h7, h4, h6⟩ := townB_parts h
    obtain ⟨D, hD⟩ := exists_dist m (rs.map st)
    have HY := Lib.hid (HV0.out.yes h hD)
    have HD := Lib.hid hD
    have HOK := Lib.hid h4
    have HRE := Lib.hid h6
    clear h h4 h6 hD
    go_enter Try.func8, Try.ntmps8
    go_wp2_with fail
    refine H.out.mono ?_
    rintro e w1 ⟨hp, _⟩
    obtain ⟨A1, c1, bs, rfl, _, ht, hb⟩ := hp HT.out
    have HB1 := Lib.hid hb
    have HTW := Lib.hid ht
    have hod := oddsIn_any A1 c1 w.heap.size m bs (fresh (rs.map st)) w1 ht (by rw [fresh_len]; exact h7) (fresh_lt HOK.out) h5
    rw [fresh_len, fresh_fst] at hod
    have HOD := Lib.hid hod
    have hz1 := HB1.out.size
    clear hb hp ht hod
    go_wp2_with fail
    refine HOD.out.mono ?_
    rintro e w2 ⟨A3, c3, rfl, hc3, ho3, hb2⟩
    rw [oddL_ints] at hc3 ho3 ⊢
    rw [intsR_len] at hc3 ⊢
    have ht2 := HTW.out.keep hb2
    have HTW2 := Lib.hid ht2
    have hap := apartIn_any A1 c1 w.heap.size m bs (fresh (rs.map st)) w2 ht2 (by rw [fresh_len]; exact h7) (fresh_lt HOK.out) (fun s hs => by
      obtain ⟨s', hs', rfl⟩ := List.mem_map.1 hs
      exact street_len HOK.out s' hs') h1 h5
    rw [fresh_len, fresh_fst] at hap
    have HAP := Lib.hid hap
    have HB2 := Lib.hid hb2
    have HO3 := Lib.hid ho3
    have hz2 := hb2.size
    clear ht2 hap ho3 hb2
    go_wp2_with fail
    refine HAP.out.mono ?_
    rintro e w3 ⟨E, hE, A2, c2, rfl, hc2, hm2, hb3⟩
    rw [mat_len] at hc2 ⊢
    have hdist := hE.done fun i k hi hk => town_short (street_lt HOK.out) (street_len HOK.out) (by rw [List.length_map]; exact h7) HRE.out hi hk
    have hED : ∀ i k, i < m → k < m → 0 ≤ E i k ∧ E i k ≤ 140 := fun i k hi hk => by
      obtain ⟨x, hx, hxb⟩ := town_short (street_lt HOK.out) (street_len HOK.out) (by rw [List.length_map]; exact h7) HRE.out hi hk
      have := (hdist i k hi hk).2.2 x hx
      omega
    have hlen := oddL_len m (rs.map st)
    have hev := oddL_even (street_lt HOK.out)
    have hpv := pairF_bd hED ((oddL m (rs.map st)).length / 2) (oddL m (rs.map st)) hev (oddL_lt m _)
    have hpc := pairF_congr (fun i k hi hk => hdist.one HD.out hi hk) ((oddL m (rs.map st)).length / 2) (oddL m (rs.map st)) (oddL_lt m _)
    rw [← hpc] at HY
    have hlp := leastPaired_any E m hED ((oddL m (rs.map st)).length / 2) A2 A3 c2 c3 (oddL m (rs.map st)).length (oddL m (rs.map st)) w3 (by omega) rfl hev hc3 (oddL_lt m _) hm2.row (HO3.out.past hb3).row
    obtain ⟨pv, hpv2⟩ : ∃ pv, pairF E ((oddL m (rs.map st)).length / 2) (oddL m (rs.map st)) = pv := ⟨_, rfl⟩
    rw [hpv2] at hlp hpv HY
    have hp1 : 0 ≤ pv ∧ pv ≤ 280 := by
      have : (140 : Int) * ((oddL m (rs.map st)).length / 2 : Nat) ≤ 280 := by omega
      omega
    have HLP := Lib.hid hlp
    have HB3 := Lib.hid hb3
    have HTW3 := Lib.hid (HTW2.out.keep hb3)
    have hz3 := hb3.size
    clear hpv hpc hlp hpv2 hev hlen hED hc3 hc2 hm2 hb3 hdist hE
    go_wp2_with fail
    refine HLP.out.mono ?_
    rintro e w4 ⟨rfl, hb4⟩
    have HTW4 := Lib.hid (HTW3.out.keep hb4)
    have HBW := Lib.hid (HB1.out.trans ((HB2.out.trans ((HB3.out.trans (hb4.mono (by omega))).mono (by omega))).mono (by omega)))
    clear hb4
    go_wp2_with fail
    go_loopw [7, 27] (fun v u wr => ∃ k : Nat, k ≤ rs.length ∧ u = .int .i64 (k : Int) ∧ v = .int .i64 (pv + ((totL ((rs.map st).take k) : Nat) : Int)) ∧ w4 = wr) (fun _ u _ => rs.length - (intOf u).toNat)
    case atStart => exact ⟨0, by omega, rfl, by simp [totL], rfl⟩
    case round =>
      obtain ⟨k, hk, rfl, rfl, rfl⟩ := hrel
      by_cases hlk : k < rs.length
      · have hkf : k < (fresh (rs.map st)).length := by rw [fresh_len]; exact hlk
        obtain ⟨b0, o, b, hA1, hb0, p0, hbl, _, _, _, _, p3, _⟩ := HTW4.out.street hkf
        subst hA1
        have hmore := totL_more (ss := rs.map st) (k := k) (by simpa using hlk)
        have hsm := totL_small (ss := rs.map st) (street_len HOK.out) (by rw [List.length_map]; exact h7) k
        have hl20 : ((rs.map st)[k]'(by simpa using hlk)).2.2 ≤ 20 := street_len HOK.out _ (List.getElem_mem _)
        have hfe : (fresh (rs.map st))[k].1 = (rs.map st)[k]'(by simpa using hlk) := by simp [fresh]
        rw [hfe] at p3
        obtain ⟨l, hl⟩ : ∃ l, ((rs.map st)[k]'(by simpa using hlk)).2.2 = l := ⟨_, rfl⟩
        rw [hl] at p3 hmore hl20
        have HMO := Lib.hid hmore
        obtain ⟨t, ht⟩ : ∃ t, totL ((rs.map st).take k) = t := ⟨_, rfl⟩
        rw [ht] at hsm HMO ⊢
        have hw : IntKind.i64.wrap (pv + (t : Int) + (l : Int)) = pv + (t : Int) + (l : Int) := IntWalk.i64_in _ (by omega)
        have i1 : (0 : Int) ≤ k := by omega
        have i2 : (k : Int) < rs.length := by omega
        clear hmore ht hl hfe
        go_wp2_with fail
        go_roundw
        case rel => exact ⟨k + 1, by omega, by go_num, by rw [HMO.out]; push_cast; rw [Int.add_assoc], by first | rfl | trivial⟩
        case measure => simp [intOf]; omega
      · have hkk : k = rs.length := by omega
        subst hkk
        have hall : (rs.map st).take rs.length = rs.map st := by rw [← List.length_map (f := st)]; exact List.take_length
        rw [hall]
        have HF := Lib.hid (show pv + ((totL (rs.map st) : Nat) : Int) = V by rw [HY.out]; omega)
        clear hall
        go_wp2_with fail
        go_ret
        exact ⟨by rw [HF.out]; rfl, HBW.out⟩
end Go.Proofs.Ytekckjjfggclnaa
