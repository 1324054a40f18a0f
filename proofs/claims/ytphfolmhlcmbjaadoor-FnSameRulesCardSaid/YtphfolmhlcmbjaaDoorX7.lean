/- Rules that do the same, both sides. No condition. -/
import Derived.Test.YtphfolmhlcmbjaaDoorX5
import Derived.Test.YtphfolmhlcmbjaaDoorX6
import Derived.Deep.RegionHeld3
namespace Go.Proofs.YtphfolmhlcmbjaaDoor
open Go.RowKit

theorem sameV_no {rs ss : List (ByteArray × Int)} {k : Nat} {m : ByteArray} (hk : k < (marksT 15).length) (hm : (marksT 15)[k] = m) (h : boxV rs m ≠ boxV ss m) : sameV rs ss = false := by
  rw [← Bool.not_eq_true, sameV_iff]
  intro hall
  exact h (hall m (by rw [← hm]; exact List.getElem_mem hk))
/-- The first n marks have the same boxes. -/
def sameT (rs ss : List (ByteArray × Int)) (n : Nat) : Bool := ((marksT 15).take n).all fun m => boxV rs m == boxV ss m
theorem sameT_succ {rs ss : List (ByteArray × Int)} {n : Nat} {m : ByteArray} (hn : n < (marksT 15).length) (hm : (marksT 15)[n] = m) : sameT rs ss (n + 1) = (sameT rs ss n && (boxV rs m == boxV ss m)) := by
  rw [sameT, sameT, List.take_succ_eq_append_getElem hn, List.all_append, hm]; simp
theorem sameT_all {rs ss : List (ByteArray × Int)} : sameT rs ss 31 = sameV rs ss := by
  rw [sameT, List.take_of_length_le (by rw [marks_len]; omega)]; rfl
theorem m15_len : (marksT 15).length = 31 := by rw [marks_len]

set_option maxRecDepth 100000 in
set_option maxHeartbeats 4000000 in
theorem specsame_any (A B : Option Addr) (c d : Nat) (rs ss : List (ByteArray × Int)) (w : World) (hr : Own w 0 w.heap.size A (flat rs)) (hr2 : Own w 0 w.heap.size B (flat ss)) (hl : rs.length ≤ 1048576) (hl2 : ss.length ≤ 1048576) (hs : ∀ r ∈ rs, r.1.size ≤ 1048576) (hs2 : ∀ r ∈ ss, r.1.size ≤ 1048576) :
    Calls Tryd.prog 52 #[.slice A rs.length c, .slice B ss.length d] w fun e w' => e = .returned (.bool (sameV rs ss)) ∧ Below w.heap.size w w' := by
  have HR := Lib.hid (And.intro hr hr2)
  have HS := Lib.hid (And.intro hs hs2)
  clear hs hs2 hr hr2
  go_enter Tryd.func52, Tryd.ntmps52
  go_wp2_with fail
  refine (specMarks_any _).mono ?_
  rintro e w1 ⟨M, cM, rfl, hM, hb1⟩
  have HM := Lib.hid hM
  have HB1 := Lib.hid hb1
  have hz1 := hb1.size
  clear hM hb1
  go_wp2
  go_loopw [6] (fun i wr => ∃ n : Nat, n ≤ 31 ∧ i = .int .i64 n ∧ sameT rs ss n = true ∧ Below w1.heap.size w1 wr) (fun i _ => 31 - (intOf i).toNat)
  case atStart => exact ⟨0, by omega, rfl, by simp [sameT], Below.refl _ _⟩
  case round =>
    obtain ⟨n, hn, rfl, hall, hbw⟩ := hrel
    have HA := Lib.hid hall
    have HBW := Lib.hid hbw
    have hwz := hbw.size
    obtain ⟨W, hW⟩ : ∃ W : World, W = wr := ⟨_, rfl⟩
    subst hW
    clear hall
    by_cases hlt : n < 31
    · obtain ⟨b, o, rfl, hb, hc⟩ := (HM.out.below hbw).open (by rw [strV_len, marks_len]; omega)
      have hcell := strs_at hc (show n < (marksT 15).length by rw [m15_len]; exact hlt)
      have hsz := mark_le (Nat.le_refl 15) (show n < (marksT 15).length by rw [m15_len]; exact hlt)
      have HNO := Lib.hid (fun m hm h => sameV_no (rs := rs) (ss := ss) (k := n) (m := m) (by rw [m15_len]; exact hlt) hm h)
      have HTS := Lib.hid (fun m hm => sameT_succ (rs := rs) (ss := ss) (n := n) (m := m) (by rw [m15_len]; exact hlt) hm)
      obtain ⟨m, hm⟩ : ∃ m, (marksT 15)[n]'(by rw [m15_len]; exact hlt) = m := ⟨_, rfl⟩
      rw [hm] at hcell hsz
      have HNO2 := Lib.hid (HNO.out m hm)
      have HTS2 := Lib.hid (HTS.out m hm)
      have hnI : (n : Int) < 31 := by omega
      have hn0 : (0 : Int) ≤ (n : Int) := by omega
      have hbW : b < W.heap.size := by omega
      obtain ⟨x, hx⟩ : ∃ x, boxV rs m = x := ⟨_, rfl⟩
      obtain ⟨y, hy⟩ : ∃ y, boxV ss m = y := ⟨_, rfl⟩
      have HQ1 := Lib.hid (show ∀ X, Below W.heap.size W X → Calls Tryd.prog 48 #[.slice A rs.length c, .string m] X fun e w' => e = .returned (.int .i64 x) ∧ Below X.heap.size X w' from fun X hX => by
        have hbX := (HB1.out.trans (HBW.out.mono hz1)).trans (hX.mono (Nat.le_trans hz1 hwz))
        have := specbox_any A c rs m X ((HR.out.1.below hbX).more hbX.size) hl HS.out.1
        rw [hx] at this
        exact this.mono fun e w' ⟨h1, q, h2⟩ => ⟨h1, by rw [h2]; exact below_drewN (Below.refl _ _) q⟩)
      have HQ2 := Lib.hid (show ∀ X, Below W.heap.size W X → Calls Tryd.prog 48 #[.slice B ss.length d, .string m] X fun e w' => e = .returned (.int .i64 y) ∧ Below X.heap.size X w' from fun X hX => by
        have hbX := (HB1.out.trans (HBW.out.mono hz1)).trans (hX.mono (Nat.le_trans hz1 hwz))
        have := specbox_any B d ss m X ((HR.out.2.below hbX).more hbX.size) hl2 HS.out.2
        rw [hy] at this
        exact this.mono fun e w' ⟨h1, q, h2⟩ => ⟨h1, by rw [h2]; exact below_drewN (Below.refl _ _) q⟩)
      rw [hx, hy] at HNO2 HTS2
      have q4 : Below W.heap.size W W.drew := ⟨rfl, rfl, rfl, Nat.le_refl _, fun _ _ => rfl⟩
      have HC := Lib.hid hcell
      clear hc hm hx hy HNO HTS hbw hb
      by_cases hxy : x = y
      · have hne : (x != y) = false := by simp [hxy]
        have HXY := Lib.hid hxy
        clear hxy
        go_wp2
        go_region_held3 (fun w' => w'.cell? ⟨b, o + n, none⟩ = some (.string m))
          (first | exact cell_stay q6 hbW HC.out | exact cell_stay q5 hbW HC.out | exact cell_stay q4 hbW HC.out)
          ((first
            | (go_at_call 48; ((with_reducible refine (HQ1.out _ q5).mono ?_); rintro e wy ⟨rfl, by6⟩); have q6 : Below W.heap.size W wy := q5.trans (by6.mono q5.size))
            | (go_at_call 48; ((with_reducible refine (HQ2.out _ q5).mono ?_); rintro e wy ⟨rfl, by6⟩); have q6 : Below W.heap.size W wy := q5.trans (by6.mono q5.size))
            | (go_at_call 48; ((with_reducible refine (HQ1.out _ q4).mono ?_); rintro e wx ⟨rfl, bx5⟩); have q5 : Below W.heap.size W wx := q4.trans (bx5.mono q4.size))
            | (go_at_call 48; ((with_reducible refine (HQ2.out _ q4).mono ?_); rintro e wx ⟨rfl, bx5⟩); have q5 : Below W.heap.size W wx := q4.trans (bx5.mono q4.size))))
        all_goals
          have HQ6 := Lib.hid q6
          clear q4 q5 q6 bx5 by6
          go_simp
          go_wp2
          go_roundw
          case rel => exact ⟨n + 1, by omega, by go_num, by rw [HTS2.out, HA.out, HXY.out]; simp, HBW.out.trans (HQ6.out.mono hwz)⟩
          case measure => simp [intOf]; omega
      · have hne : (x != y) = true := by simp [hxy]
        have HF := Lib.hid (HNO2.out hxy)
        clear hxy
        go_wp2
        go_region_held3 (fun w' => w'.cell? ⟨b, o + n, none⟩ = some (.string m))
          (first | exact cell_stay q6 hbW HC.out | exact cell_stay q5 hbW HC.out | exact cell_stay q4 hbW HC.out)
          ((first
            | (go_at_call 48; ((with_reducible refine (HQ1.out _ q5).mono ?_); rintro e wy ⟨rfl, by6⟩); have q6 : Below W.heap.size W wy := q5.trans (by6.mono q5.size))
            | (go_at_call 48; ((with_reducible refine (HQ2.out _ q5).mono ?_); rintro e wy ⟨rfl, by6⟩); have q6 : Below W.heap.size W wy := q5.trans (by6.mono q5.size))
            | (go_at_call 48; ((with_reducible refine (HQ1.out _ q4).mono ?_); rintro e wx ⟨rfl, bx5⟩); have q5 : Below W.heap.size W wx := q4.trans (bx5.mono q4.size))
            | (go_at_call 48; ((with_reducible refine (HQ2.out _ q4).mono ?_); rintro e wx ⟨rfl, bx5⟩); have q5 : Below W.heap.size W wx := q4.trans (bx5.mono q4.size))))
        all_goals
          have HQ6 := Lib.hid q6
          clear q4 q5 q6 bx5 by6
          go_simp
          go_wp2
          go_ret
          exact ⟨ret_bool HF.out.symm, HB1.out.trans ((HBW.out.trans (HQ6.out.mono hwz)).mono hz1)⟩
    · have hn' : n = 31 := by omega
      subst hn'
      have HT := Lib.hid (show sameV rs ss = true by rw [← sameT_all]; exact HA.out)
      go_wp2
      go_ret
      exact ⟨ret_bool HT.out.symm, HB1.out.trans (HBW.out.mono hz1)⟩

set_option maxRecDepth 100000 in
theorem specSameRules_any (A B : Option Addr) (c d : Nat) (rs ss : List (ByteArray × Int)) (w : World) (hr : Own w 0 w.heap.size A (flat rs)) (hr2 : Own w 0 w.heap.size B (flat ss)) (hl : rs.length ≤ 1048576) (hl2 : ss.length ≤ 1048576) (hs : ∀ r ∈ rs, r.1.size ≤ 1048576) (hs2 : ∀ r ∈ ss, r.1.size ≤ 1048576) :
    Calls Tryd.prog 21 #[.slice A rs.length c, .slice B ss.length d] w fun e w' => e = .returned (.bool (sameRulesV rs ss)) ∧ Below w.heap.size w w' := by
  have hv1 := fun X hX => specvRules_any A c rs X hX hl hs
  have hv2 := fun X hX => specvRules_any B d ss X hX hl2 hs2
  have hsm := fun X hX hX2 => specsame_any A B c d rs ss X hX hX2 hl hl2 hs hs2
  have he : sameRulesV rs ss = (rulesB rs && rulesB ss && sameV rs ss) := rfl
  obtain ⟨q1, hq1⟩ : ∃ q, rulesB rs = q := ⟨_, rfl⟩
  obtain ⟨q2, hq2⟩ : ∃ q, rulesB ss = q := ⟨_, rfl⟩
  obtain ⟨q3, hq3⟩ : ∃ q, sameV rs ss = q := ⟨_, rfl⟩
  rw [hq1] at hv1
  rw [hq2] at hv2
  rw [hq3] at hsm
  rw [hq1, hq2, hq3] at he
  rw [he]
  have HV1 := Lib.hid hv1
  have HV2 := Lib.hid hv2
  have HSM := Lib.hid hsm
  clear hv1 hv2 hsm he hq1 hq2 hq3 hs hs2
  go_enter Tryd.func21, Tryd.ntmps21
  go_wp2_with fail
  refine (HV1.out _ hr).mono ?_
  rintro e w1 ⟨rfl, n1, hw1⟩
  have b1 : Below w.heap.size w w1 := by rw [hw1]; exact below_drewN (Below.refl _ _) n1
  have ra := hr.past b1
  have rb := hr2.past b1
  have HB1 := Lib.hid b1
  clear hw1 b1
  cases q1
  · go_wp2
    go_ret
    exact ⟨rfl, HB1.out⟩
  · go_wp2_with fail
    refine (HV2.out _ rb).mono ?_
    rintro e w2 ⟨rfl, n2, hw2⟩
    have b2 : Below w1.heap.size w1 w2 := by rw [hw2]; exact below_drewN (Below.refl _ _) n2
    have ra2 := ra.past b2
    have rb2 := rb.past b2
    have HB2 := Lib.hid (HB1.out.trans (b2.mono HB1.out.size))
    clear hw2 b2
    cases q2
    · go_wp2
      go_ret
      exact ⟨rfl, HB2.out⟩
    · go_wp2_with fail
      refine (HSM.out _ ra2 rb2).mono ?_
      rintro e w3 ⟨rfl, b3⟩
      have HB3 := Lib.hid (HB2.out.trans (b3.mono HB2.out.size))
      clear b3
      go_wp2
      go_ret
      exact ⟨rfl, HB3.out⟩

set_option maxRecDepth 100000 in
set_option maxHeartbeats 4000000 in
theorem impSameRules_any (A B : Option Addr) (c d : Nat) (rs ss : List (ByteArray × Int)) (w : World) (hr : Own w 0 w.heap.size A (flat rs)) (hr2 : Own w 0 w.heap.size B (flat ss)) (hl : rs.length ≤ 1048576) (hl2 : ss.length ≤ 1048576) (hs : ∀ r ∈ rs, r.1.size ≤ 1048576) (hs2 : ∀ r ∈ ss, r.1.size ≤ 1048576) :
    Calls Tryd.prog 20 #[.slice A rs.length c, .slice B ss.length d] w fun e w' => e = .returned (.bool (sameRulesV rs ss)) ∧ Below w.heap.size w w' := by
  have hv1 := fun X hX => impValidRules_any A c rs X hX (fun r h => Nat.le_trans (hs r h) (by omega))
  have hv2 := fun X hX => impValidRules_any B d ss X hX (fun r h => Nat.le_trans (hs2 r h) (by omega))
  have he : sameRulesV rs ss = (rulesB rs && rulesB ss && sameV rs ss) := rfl
  obtain ⟨q1, hq1⟩ : ∃ q, rulesB rs = q := ⟨_, rfl⟩
  obtain ⟨q2, hq2⟩ : ∃ q, rulesB ss = q := ⟨_, rfl⟩
  rw [hq1] at hv1
  rw [hq2] at hv2
  rw [hq1, hq2] at he
  rw [he]
  have HV1 := Lib.hid hv1
  have HV2 := Lib.hid hv2
  clear hv1 hv2 he hq1 hq2 hs hs2
  go_enter Tryd.func20, Tryd.ntmps20
  go_wp2_with fail
  refine (HV1.out _ hr).mono ?_
  rintro e w1 ⟨rfl, b1⟩
  have ra := hr.past b1
  have rb := hr2.past b1
  have HB1 := Lib.hid b1
  clear b1
  cases q1
  · go_wp2
    go_ret
    exact ⟨rfl, HB1.out⟩
  · go_wp2_with fail
    refine (HV2.out _ rb).mono ?_
    rintro e w2 ⟨rfl, b2⟩
    have ra2 := ra.past b2
    have rb2 := rb.past b2
    have HB2 := Lib.hid (HB1.out.trans (b2.mono HB1.out.size))
    clear b2
    cases q2
    · go_wp2
      go_ret
      exact ⟨rfl, HB2.out⟩
    · have HR := Lib.hid (And.intro ra2 rb2)
      clear ra ra2 rb rb2 hr hr2
      go_wp2_with fail
      refine (allMarks_any _).mono ?_
      rintro e w3 ⟨M, cM, rfl, hM, hb3⟩
      have HM := Lib.hid hM
      have HB3 := Lib.hid hb3
      have hz3 := hb3.size
      clear hM hb3
      go_wp2
      go_loopw [17] (fun i wr => ∃ n : Nat, n ≤ 31 ∧ i = .int .i64 n ∧ sameT rs ss n = true ∧ Below w3.heap.size w3 wr) (fun i _ => 31 - (intOf i).toNat)
      case atStart => exact ⟨0, by omega, rfl, by simp [sameT], Below.refl _ _⟩
      case round =>
        obtain ⟨n, hn, rfl, hall, hbw⟩ := hrel
        have HA := Lib.hid hall
        have HBW := Lib.hid hbw
        have hwz := hbw.size
        obtain ⟨W, hW⟩ : ∃ W : World, W = wr := ⟨_, rfl⟩
        subst hW
        clear hall
        by_cases hlt : n < 31
        · obtain ⟨b, o, rfl, hb, hc⟩ := (HM.out.below hbw).open (by rw [strV_len, marks_len]; omega)
          have hcell := strs_at hc (show n < (marksT 15).length by rw [m15_len]; exact hlt)
          have HNO := Lib.hid (fun m hm h => sameV_no (rs := rs) (ss := ss) (k := n) (m := m) (by rw [m15_len]; exact hlt) hm h)
          have HTS := Lib.hid (fun m hm => sameT_succ (rs := rs) (ss := ss) (n := n) (m := m) (by rw [m15_len]; exact hlt) hm)
          obtain ⟨m, hm⟩ : ∃ m, (marksT 15)[n]'(by rw [m15_len]; exact hlt) = m := ⟨_, rfl⟩
          rw [hm] at hcell
          have HNO2 := Lib.hid (HNO.out m hm)
          have HTS2 := Lib.hid (HTS.out m hm)
          have hnI : (n : Int) < 31 := by omega
          have hn0 : (0 : Int) ≤ (n : Int) := by omega
          have hbX := HB3.out.trans (hbw.mono hz3)
          have r1 := (HR.out.1.below hbX).more hbX.size
          have r2 := (HR.out.2.below hbX).more hbX.size
          have h1 := firstBox_any A c rs m W r1 hl
          have h2 := fun X hX => firstBox_any B d ss m X hX hl2
          obtain ⟨x, hx⟩ : ∃ x, boxV rs m = x := ⟨_, rfl⟩
          obtain ⟨y, hy⟩ : ∃ y, boxV ss m = y := ⟨_, rfl⟩
          rw [hx] at h1 HNO2 HTS2
          rw [hy] at h2 HNO2 HTS2
          have H1 := Lib.hid h1
          have H2 := Lib.hid h2
          clear hc hm hx hy HNO HTS hbw hb h1 h2 r1
          go_wp2_with fail
          refine H1.out.mono ?_
          rintro e w4 ⟨rfl, b4⟩
          have r4 := r2.past b4
          go_wp2_with fail
          refine (H2.out _ r4).mono ?_
          rintro e w5 ⟨rfl, b5⟩
          have HB5 := Lib.hid (HBW.out.trans ((b4.trans (b5.mono b4.size)).mono hwz))
          clear b4 b5 r4 r2
          by_cases hxy : x = y
          · have hne : (x != y) = false := by simp [hxy]
            have HXY := Lib.hid hxy
            clear hxy
            go_wp2
            go_roundw
            case rel => exact ⟨n + 1, by omega, by go_num, by rw [HTS2.out, HA.out, HXY.out]; simp, HB5.out⟩
            case measure => simp [intOf]; omega
          · have hne : (x != y) = true := by simp [hxy]
            have HF := Lib.hid (HNO2.out hxy)
            clear hxy
            go_wp2
            go_ret
            exact ⟨ret_bool (by rw [HF.out]; rfl), HB2.out.trans ((HB3.out.trans (HB5.out.mono hz3)).mono HB2.out.size)⟩
        · have hn' : n = 31 := by omega
          subst hn'
          have HT := Lib.hid (show sameV rs ss = true by rw [← sameT_all]; exact HA.out)
          go_wp2
          go_ret
          exact ⟨ret_bool (by rw [HT.out]; rfl), HB2.out.trans ((HB3.out.trans (HBW.out.mono hz3)).mono HB2.out.size)⟩
end Go.Proofs.YtphfolmhlcmbjaaDoor
