/- spec.RoundCost. No condition. -/
import Derived.Test.YtjklnknlifpidaaRc2
import Derived.Test.YtjklnknlifpidaaN16
import Derived.Test.YtjklnknlifpidaaN21p
namespace Go.Proofs.Ytjklnknlifpidaa
open Go.RowKit

theorem pairTo_congr {D E : Nat → Nat → Int} {F G : List Nat → Int} {x : Nat} {r : List Nat} (h : ∀ j, j < r.length → D x (r.getD j 0) + F (dropAt r j) = E x (r.getD j 0) + G (dropAt r j)) : ∀ j, j ≤ r.length → pairTo D F x r j = pairTo E G x r j
  | 0, _ => rfl
  | j + 1, hj => by
    show bestS (pairTo D F x r j) _ = bestS (pairTo E G x r j) _
    rw [pairTo_congr h j (by omega), h j (by omega)]
theorem pairF_congr {n : Nat} {D E : Nat → Nat → Int} (h : ∀ i k, i < n → k < n → D i k = E i k) : ∀ (m : Nat) (l : List Nat), (∀ y ∈ l, y < n) → pairF D m l = pairF E m l
  | 0, _, _ => rfl
  | m + 1, [], _ => rfl
  | m + 1, x :: r, hl => by
    refine pairTo_congr (fun j hj => ?_) r.length (Nat.le_refl _)
    have hr : ∀ y ∈ r, y < n := fun y hy => hl y (by simp [hy])
    rw [h x _ (hl x (by simp)) (by rw [List.getD, List.getElem?_eq_getElem hj]; exact hr _ (List.getElem_mem hj)), pairF_congr h m _ (dropAt_lt hr)]

/-- The odd corners. -/
def oddL (n : Nat) (ss : List St) : List Nat := (List.range n).filter fun i => degT ss i % 2 == 1
theorem oddL_ints (n : Nat) (ss : List St) : oddsTo n ss = intsR (oddL n ss) := rfl
theorem oddL_lt (n : Nat) (ss : List St) : ∀ y ∈ oddL n ss, y < n := fun _ hy => List.mem_range.1 (List.mem_filter.1 hy).1
theorem oddL_len (n : Nat) (ss : List St) : (oddL n ss).length ≤ n := by
  have h := List.length_filter_le (fun i => degT ss i % 2 == 1) (List.range n)
  rw [List.length_range] at h
  exact h
theorem oddL_even {n : Nat} {ss : List St} (h : ∀ s ∈ ss, s.1 < n ∧ s.2.1 < n) : (oddL n ss).length = 2 * ((oddL n ss).length / 2) := by
  have := odds_even h
  rw [oddL_ints, intsR_len] at this
  omega
/-- The cost of a round, or -1. -/
def IsRound (n : Int) (rs : List (List Int)) (V : Int) : Prop := (townB n rs = false ∧ V = -1) ∨ (townB n rs = true ∧ ∃ D, IsDist n.toNat (rs.map st) D ∧ V = (totL (rs.map st) : Int) + pairF D ((oddL n.toNat (rs.map st)).length / 2) (oddL n.toNat (rs.map st)))
theorem exists_round (n : Int) (rs : List (List Int)) : ∃ V, IsRound n rs V := by
  cases h : townB n rs with
  | false => exact ⟨-1, .inl ⟨h, rfl⟩⟩
  | true =>
    obtain ⟨D, hD⟩ := exists_dist n.toNat (rs.map st)
    exact ⟨_, .inr ⟨h, D, hD, rfl⟩⟩
theorem IsRound.no {n : Int} {rs : List (List Int)} {V : Int} (hV : IsRound n rs V) (h : townB n rs = false) : V = -1 := by
  rcases hV with ⟨_, h2⟩ | ⟨h2, _⟩
  · exact h2
  · rw [h] at h2; cases h2
theorem IsRound.yes {n : Nat} {rs : List (List Int)} {V : Int} {D : Nat → Nat → Int} (hV : IsRound n rs V) (h : townB n rs = true) (hD : IsDist n (rs.map st) D) : V = (totL (rs.map st) : Int) + pairF D ((oddL n (rs.map st)).length / 2) (oddL n (rs.map st)) := by
  rcases hV with ⟨h2, _⟩ | ⟨_, D2, hD2, h3⟩
  · rw [h] at h2; cases h2
  · rw [h3]
    show _ + pairF D2 _ (oddL n _) = _
    rw [pairF_congr (fun i k hi hk => hD2.one hD hi hk) _ _ (oddL_lt n _)]
    rfl
theorem totL_more {ss : List St} {k : Nat} (hk : k < ss.length) : totL (ss.take (k + 1)) = totL (ss.take k) + ss[k].2.2 := by
  unfold totL; rw [List.take_succ_eq_append_getElem hk, List.map_append, List.sum_append]; simp
theorem totL_small {ss : List St} (h : ∀ s ∈ ss, s.2.2 ≤ 20) (h7 : ss.length ≤ 7) (k : Nat) : totL (ss.take k) ≤ 140 := by
  have := totL_le (ss := ss.take k) (fun s hs => h s (List.mem_of_mem_take hs))
  rw [List.length_take] at this
  omega

set_option maxRecDepth 100000 in
set_option maxHeartbeats 8000000 in
theorem specRoundCost_any (A : Option Addr) (c : Nat) (rs : List (List Int)) (n : Int) (w : World) (hr : Grid w 0 w.heap.size A rs) (hl : rs.length ≤ 1000000000) (hs : ∀ r ∈ rs, r.length ≤ 1000000000) {V : Int} (hV : IsRound n rs V) :
    Calls Try.prog 23 #[.int .i64 n, .slice A rs.length c] w fun e w' => e = .returned (.int .i64 V) ∧ Below w.heap.size w w' := by
  have H := Lib.hid (validTown_any A c rs n w hr hl hs)
  have HR := Lib.hid hr
  have HV0 := Lib.hid hV
  clear hs hr hV
  cases h : townB n rs with
  | false =>
    rw [h] at H
    have HF := Lib.hid (HV0.out.no h)
    clear h
    rw [HF.out]
    go_enter Try.func23, Try.ntmps23
    go_wp2_with fail
    refine H.out.mono ?_
    rintro e w1 ⟨rfl, hb⟩
    go_wp2
    go_ret
    exact ⟨rfl, hb⟩
  | true =>
    rw [h] at H
    have HT := Lib.hid h
    obtain ⟨m, rfl, h1, h5, h7, h4, h6⟩ := townB_parts h
    obtain ⟨D, hD⟩ := exists_dist m (rs.map st)
    have HY := Lib.hid (HV0.out.yes h hD)
    have HD := Lib.hid hD
    have HOK := Lib.hid h4
    have HRE := Lib.hid h6
    clear h h4 h6 hD
    go_enter Try.func23, Try.ntmps23
    go_wp2_with fail
    refine H.out.mono ?_
    rintro e w1 ⟨rfl, hb⟩
    have HB1 := Lib.hid hb
    have HR1 := Lib.hid (HR.out.past hb)
    clear hb
    go_wp2_with fail
    go_loopw [5, 6] (fun v u wr => ∃ k : Nat, k ≤ rs.length ∧ u = .int .i64 (k : Int) ∧ v = .int .i64 ((totL ((rs.map st).take k) : Nat) : Int) ∧ w1 = wr) (fun _ u _ => rs.length - (intOf u).toNat)
    case atStart => exact ⟨0, by omega, rfl, by simp [totL], rfl⟩
    case round =>
      obtain ⟨k, hk, rfl, rfl, rfl⟩ := hrel
      by_cases hlk : k < rs.length
      · obtain ⟨x, y, l, bA, oA, b', o', c1, hej, hst, ⟨hx, hy, hl1, hl2⟩, hAA, g0, g1, g2, g3, hbA, hb'⟩ := HR1.out.street HOK.out hlk
        subst hAA
        have hmore := totL_more (ss := rs.map st) (k := k) (by simpa using hlk)
        have hsm := totL_small (ss := rs.map st) (street_len HOK.out) (by rw [List.length_map]; exact h7) k
        rw [List.getElem_map, hst] at hmore
        have HMO := Lib.hid hmore
        obtain ⟨t, ht⟩ : ∃ t, totL ((rs.map st).take k) = t := ⟨_, rfl⟩
        rw [ht] at hsm HMO ⊢
        have hw : IntKind.i64.wrap ((t : Int) + (l : Int)) = (t : Int) + (l : Int) := IntWalk.i64_in _ (by omega)
        have i1 : (0 : Int) ≤ k := by omega
        have i2 : (k : Int) < rs.length := by omega
        clear hej hst hmore ht
        go_wp2_with fail
        go_roundw
        case rel => exact ⟨k + 1, by omega, by go_num, by rw [HMO.out]; push_cast; rfl, by first | rfl | trivial⟩
        case measure => simp [intOf]; omega
      · have hkk : k = rs.length := by omega
        subst hkk
        have hall : (rs.map st).take rs.length = rs.map st := by rw [← List.length_map (f := st)]; exact List.take_length
        rw [hall]
        have hsm := totL_small (ss := rs.map st) (street_len HOK.out) (by rw [List.length_map]; exact h7) rs.length
        rw [hall] at hsm
        obtain ⟨t, ht⟩ : ∃ t, totL (rs.map st) = t := ⟨_, rfl⟩
        rw [ht] at hsm HY ⊢
        have HAP := Lib.hid (apart_low A c rs m w1 HR1.out h1 h5 h7 HOK.out)
        clear hall ht
        go_wp2_with fail
        refine HAP.out.mono ?_
        rintro e w2 ⟨E, hE, A2, c2, rfl, hc2, hm2, hb2⟩
        rw [mat_len] at hc2 ⊢
        have HE := Lib.hid hE
        have HG2 := Lib.hid hm2.row
        have HB2 := Lib.hid hb2
        have HOD := Lib.hid (specOdds_low A c rs m w2 (HR1.out.past hb2) h5 h7 HOK.out)
        clear hE hc2 hm2 hb2
        go_wp2_with fail
        refine HOD.out.mono ?_
        rintro e w3 ⟨A3, c3, rfl, hc3, ho3, hb3⟩
        rw [oddL_ints] at hc3 ho3 ⊢
        rw [intsR_len] at hc3 ⊢
        have hED : ∀ i k, i < m → k < m → 0 ≤ E i k ∧ E i k ≤ 140 := fun i k hi hk => by
          obtain ⟨x, hx, hxb⟩ := town_short (street_lt HOK.out) (street_len HOK.out) (by rw [List.length_map]; exact h7) HRE.out hi hk
          have := (HE.out i k hi hk).2.2 x hx
          omega
        have hlen := oddL_len m (rs.map st)
        have hev := oddL_even (street_lt HOK.out)
        have hpv := pairF_bd hED ((oddL m (rs.map st)).length / 2) (oddL m (rs.map st)) hev (oddL_lt m _)
        have hpc := pairF_congr (fun i k hi hk => HE.out.one HD.out hi hk) ((oddL m (rs.map st)).length / 2) (oddL m (rs.map st)) (oddL_lt m _)
        rw [← hpc] at HY
        have hpu := pairUp_any E m hED ((oddL m (rs.map st)).length / 2) A2 A3 c2 c3 (oddL m (rs.map st)).length (oddL m (rs.map st)) w3 (by omega) rfl hev hc3 (oddL_lt m _) (HG2.out.past hb3) (ho3.row)
        obtain ⟨pv, hpv2⟩ : ∃ pv, pairF E ((oddL m (rs.map st)).length / 2) (oddL m (rs.map st)) = pv := ⟨_, rfl⟩
        rw [hpv2] at hpu hpv HY
        have hp1 : 0 ≤ pv ∧ pv ≤ 280 := by
          have : (140 : Int) * ((oddL m (rs.map st)).length / 2 : Nat) ≤ 280 := by omega
          omega
        have HPU := Lib.hid hpu
        have HB3 := Lib.hid hb3
        have hw : IntKind.i64.wrap ((t : Int) + pv) = (t : Int) + pv := IntWalk.i64_in _ (by omega)
        have hz2 := HB2.out.size
        have hz1 := HB1.out.size
        have hz3 := hb3.size
        clear hpv hpc hpu hpv2 hev hlen hED hc3 ho3 hb3
        go_wp2_with fail
        refine HPU.out.mono ?_
        rintro e w4 ⟨rfl, hb4⟩
        have HB4 := Lib.hid hb4
        clear hb4
        go_wp2_with fail
        go_ret
        exact ⟨by rw [HY.out]; rfl, HB1.out.trans ((HB2.out.trans ((HB3.out.trans (HB4.out.mono (by omega))).mono (by omega))).mono (by omega))⟩
end Go.Proofs.Ytjklnknlifpidaa
