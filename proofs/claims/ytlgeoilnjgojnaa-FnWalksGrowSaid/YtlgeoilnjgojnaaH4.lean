/- LeastWalk, both sides. No condition. -/
import Derived.Test.YtlgeoilnjgojnaaH2
namespace Go.Proofs.Ytlgeoilnjgojnaa
open Go.RowKit

theorem house_row {rs : List (List Int)} (h : housesB rs = true) {k : Nat} (hk : k < rs.length) : ∃ p s, rs[k] = [p, s] ∧ 0 ≤ p ∧ p ≤ 20 ∧ 0 ≤ s ∧ s ≤ 1 := by
  simp only [housesB, Bool.and_eq_true, List.all_eq_true] at h
  have h1 := h.2 _ (List.getElem_mem hk)
  by_cases h2 : rs[k].length = 2
  · obtain ⟨p, s, he⟩ := two_of h2
    rw [he, okH_two] at h1
    simp only [Bool.and_eq_true, inR_iff] at h1
    exact ⟨p, s, he, by omega, by omega, by omega, by omega⟩
  · rw [okH_no h2] at h1; cases h1
theorem house_len {rs : List (List Int)} (h : housesB rs = true) : rs.length ≤ 6 := by
  simp only [housesB, Bool.and_eq_true, decide_eq_true_eq] at h; exact h.1

/-- A house in memory. -/
theorem Grid.house {w : World} {B : Nat} {A : Option Addr} {rs : List (List Int)} (h : Grid w 0 B A rs) (hv : housesB rs = true) {k : Nat} (hk : k < rs.length) :
    ∃ (p s : Int) (b o b' o' c1 : Nat), rs[k] = [p, s] ∧ (0 ≤ p ∧ p ≤ 20 ∧ 0 ≤ s ∧ s ≤ 1) ∧ A = some ⟨b, o, none⟩ ∧ w.cell? ⟨b, o + k, none⟩ = some (.slice (some ⟨b', o', none⟩) 2 c1) ∧ w.cell? ⟨b', o', none⟩ = some (.int .i64 p) ∧ w.cell? ⟨b', o' + 1, none⟩ = some (.int .i64 s) ∧ b < B ∧ b' < B := by
  obtain ⟨p, s, he, hb⟩ := house_row hv hk
  obtain ⟨b, o, R, c1, hA, hlt, hcell, _, ho⟩ := h.open hk
  rw [he] at hcell ho
  obtain ⟨b', o', rfl, hb', hc'⟩ := ho.open (by simp)
  have q0 := ints_at hc' (show 0 < [p, s].length by simp)
  have q1 := ints_at hc' (show 1 < [p, s].length by simp)
  simp only [List.getElem_cons_zero, List.getElem_cons_succ, Nat.add_zero] at q0 q1
  exact ⟨p, s, b, o, b', o', c1, he, hb, hA, hcell, q0, q1, hlt, hb'⟩

theorem max_if (a b : Int) : max a b = if a < b then b else a := by split <;> omega
theorem mul_bd {x y n : Int} {m : Int} (hx : 0 ≤ x) (hxn : x ≤ n) (hy : 0 ≤ y) (hym : y ≤ m) : 0 ≤ x * y ∧ x * y ≤ n * m :=
  ⟨Int.mul_nonneg hx hy, Int.mul_le_mul hxn hym hy (by omega)⟩

def farH (hs : List (Int × Int)) : Int := hs.foldl (fun m h => max m h.1) 0
def sideH (hs : List (Int × Int)) : Int := hs.foldl (fun m h => max m h.2) 0
theorem farH_take {rs : List (List Int)} {k : Nat} (hk : k < rs.length) {p s : Int} (h : rs[k] = [p, s]) : farH ((rs.take (k + 1)).map hp) = max (farH ((rs.take k).map hp)) p := by
  rw [List.take_succ_eq_append_getElem hk, h]; simp [farH, hp]
theorem sideH_take {rs : List (List Int)} {k : Nat} (hk : k < rs.length) {p s : Int} (h : rs[k] = [p, s]) : sideH ((rs.take (k + 1)).map hp) = max (sideH ((rs.take k).map hp)) s := by
  rw [List.take_succ_eq_append_getElem hk, h]; simp [sideH, hp]
def leastV (rs : List (List Int)) (cross : Int) : Int := if (housesB rs && inR cross 0 20) = true then 2 * farH (rs.map hp) + 2 * cross * sideH (rs.map hp) else -1
theorem leastV_yes {rs : List (List Int)} {cross : Int} (h : (housesB rs && inR cross 0 20) = true) : leastV rs cross = 2 * farH (rs.map hp) + 2 * cross * sideH (rs.map hp) := by rw [leastV, if_pos h]
theorem leastV_no {rs : List (List Int)} {cross : Int} (h : (housesB rs && inR cross 0 20) = false) : leastV rs cross = -1 := by rw [leastV, if_neg (by rw [h]; simp)]

set_option maxRecDepth 100000 in
theorem canCross_any (n : Int) (w : World) : Calls Try.prog 48 #[.int .i64 n] w fun e w' => e = .returned (.bool (inR n 0 20)) ∧ w = w' := by
  by_cases h : 0 ≤ n
  · by_cases h2 : n ≤ 20
    · go_enter Try.func48, Try.ntmps48
      go_wp2
      go_ret
      exact ⟨by simp [inR]; omega, rfl⟩
    · go_enter Try.func48, Try.ntmps48
      go_wp2
      go_ret
      exact ⟨by simp [inR]; omega, rfl⟩
  · go_enter Try.func48, Try.ntmps48
    go_wp2
    go_ret
    exact ⟨by simp [inR]; omega, rfl⟩

set_option maxRecDepth 100000 in
theorem validStreet_any (A : Option Addr) (c : Nat) (rs : List (List Int)) (cross : Int) (w : World) (hr : Grid w 0 w.heap.size A rs) (hl : rs.length ≤ 1000000000) (hs : ∀ r ∈ rs, r.length ≤ 1000000000) :
    Calls Try.prog 44 #[.slice A rs.length c, .int .i64 cross] w fun e w' => e = .returned (.bool (housesB rs && inR cross 0 20)) ∧ w = w' := by
  have h := validHouses_low A c rs w hr hl hs
  clear hs
  by_cases hB : housesB rs = true
  · rw [hB] at h
    have H := Lib.hid h
    have HB := Lib.hid hB
    clear h hB
    go_enter Try.func44, Try.ntmps44
    go_wp2_with (first | (go_at_call 90; ((with_reducible refine H.out.mono ?_); rintro e w' ⟨rfl, rfl⟩)) | (go_at_call 79; ((with_reducible refine (inRange_any _ _ _ _).mono ?_); rintro e w' ⟨rfl, rfl⟩)))
    go_ret
    exact ⟨ret_bool (by rw [HB.out]; rfl), rfl⟩
  · have hB' : housesB rs = false := by simpa using hB
    rw [hB'] at h
    have H := Lib.hid h
    have HB := Lib.hid hB'
    clear h hB hB'
    go_enter Try.func44, Try.ntmps44
    go_wp2_with (go_at_call 90; ((with_reducible refine H.out.mono ?_); rintro e w' ⟨rfl, rfl⟩))
    go_ret
    exact ⟨ret_bool (by rw [HB.out]; rfl), rfl⟩

/-- Where a house lies among houses. -/
theorem Own.house {w : World} {base B : Nat} {A : Option Addr} {rs : List (List Int)} (h : Own w base B A (flatP (rs.map hp))) (hv : housesB rs = true) {k : Nat} (hk : k < rs.length) :
    ∃ (p s : Int) (b o : Nat), rs[k] = [p, s] ∧ (0 ≤ p ∧ p ≤ 20 ∧ 0 ≤ s ∧ s ≤ 1) ∧ A = some ⟨b, o, none⟩ ∧ w.cell? ⟨b, o + k * 2, none⟩ = some (.int .i64 p) ∧ w.cell? ⟨b, o + k * 2 + 1, none⟩ = some (.int .i64 s) ∧ b < B := by
  obtain ⟨p, s, he, hb⟩ := house_row hv hk
  obtain ⟨b, o, hA, hlt, hc⟩ := h.open (by rw [flatP_length]; simp; omega)
  obtain ⟨q0, q1⟩ := pairs_at hc (show k < (rs.map hp).length by simpa using hk)
  rw [List.getElem_map, he] at q0 q1
  exact ⟨p, s, b, o, he, hb, hA, q0, q1, hlt⟩

set_option maxRecDepth 100000 in
set_option maxHeartbeats 2000000 in
theorem impLeast_any (A : Option Addr) (c : Nat) (rs : List (List Int)) (cross : Int) (w : World) (hr : Grid w 0 w.heap.size A rs) (hs : ∀ r ∈ rs, r.length ≤ 1000000000) :
    Calls Try.prog 20 #[.slice A rs.length c, .int .i64 cross] w fun e w' => e = .returned (.int .i64 (leastV rs cross)) ∧ Below w.heap.size w w' := by
  have H := Lib.hid (housesOf_all A c rs w hr hs)
  have hcc := fun X => canCross_any cross X
  clear hs
  by_cases hB : housesB rs = true
  · have HB := Lib.hid hB
    by_cases hC : inR cross 0 20 = true
    · rw [hC] at hcc
      have HC := Lib.hid hcc
      have HV := Lib.hid (leastV_yes (show (housesB rs && inR cross 0 20) = true by rw [hB, hC]; rfl))
      have hl6 := house_len hB
      rw [inR_iff] at hC
      obtain ⟨hc0, hc1⟩ := hC
      clear hcc hB
      go_enter Try.func20, Try.ntmps20
      go_wp2_with fail
      refine H.out.mono ?_
      rintro e w1 ⟨h1, _⟩
      obtain ⟨A1, c1, rfl, _, ho, hb⟩ := h1 HB.out
      have HB1 := Lib.hid hb
      have HO := Lib.hid ho
      have hb1 := hb.size
      clear h1 hb ho
      go_wp2_with (go_at_call 48; ((with_reducible refine (HC.out _).mono ?_); rintro e w' ⟨rfl, rfl⟩))
      go_loopw [7, 8, 25] (fun f s i wr => ∃ (k : Nat) (x y : Int), k ≤ rs.length ∧ i = .int .i64 k ∧ f = .int .i64 x ∧ s = .int .i64 (2 * y) ∧ 0 ≤ x ∧ x ≤ 20 ∧ 0 ≤ y ∧ y ≤ 1 ∧ farH ((rs.take k).map hp) = x ∧ sideH ((rs.take k).map hp) = y ∧ Below w1.heap.size w1 wr) (fun _ _ i _ => rs.length - (intOf i).toNat)
      case atStart => exact ⟨0, 0, 0, by omega, rfl, rfl, rfl, by omega, by omega, by omega, by omega, rfl, rfl, Below.refl _ _⟩
      case round =>
        obtain ⟨k, x, y, hk, rfl, rfl, rfl, hx0, hx1, hy0, hy1, hfx, hfy, hbr⟩ := hrel
        have HX := Lib.hid hfx
        have HY := Lib.hid hfy
        clear hfx hfy
        by_cases hlt : k < rs.length
        · obtain ⟨p, s, b, o, he, ⟨hp0, hp1, hs0, hs1⟩, rfl, q0, q1, hbl⟩ := (HO.out.below hbr).house HB.out hlt
          have HF := Lib.hid (farH_take hlt he)
          have HS := Lib.hid (sideH_take hlt he)
          have HBR := Lib.hid hbr
          have hbz := hbr.size
          have hkc : (k : Int) < rs.length := by omega
          clear he hbr
          by_cases hs1 : s = 1
          · subst hs1
            go_wp2
            go_roundw
            case rel => exact ⟨k + 1, _, 1, by omega, by go_num, rfl, rfl, by split <;> omega, by split <;> omega, by omega, by omega, by rw [HF.out, HX.out]; exact max_if _ _, by rw [HS.out, HY.out]; omega, HBR.out.alloc hbz _⟩
            case measure => simp [intOf]; omega
          · have hs2 : (s == 1) = false := beq_eq_false_iff_ne.2 hs1
            have HS1 := Lib.hid hs1
            clear hs1
            go_wp2
            go_roundw
            case rel => exact ⟨k + 1, _, y, by omega, by go_num, rfl, rfl, by split <;> omega, by split <;> omega, by omega, by omega, by rw [HF.out, HX.out]; exact max_if _ _, by rw [HS.out, HY.out]; have := HS1.out; omega, HBR.out.alloc hbz _⟩
            case measure => simp [intOf]; omega
        · have hk' : k = rs.length := by omega
          subst hk'
          have hfin : leastV rs cross = 2 * x + 2 * y * cross := by
            have h1 := HX.out
            have h2 := HY.out
            rw [List.take_length] at h1 h2
            rw [HV.out, h1, h2, Int.mul_assoc, Int.mul_comm cross y, ← Int.mul_assoc]
          have HFIN := Lib.hid hfin
          have m1 := mul_bd (x := 2 * y) (y := cross) (n := 2) (by omega) (by omega) hc0 hc1
          obtain ⟨m1, m2⟩ := m1
          have HBF := Lib.hid (HB1.out.trans (hbr.mono hb1))
          clear hfin hbr
          go_wp2
          go_ret
          exact ⟨ret_int HFIN.out.symm, HBF.out⟩
    · have hC' : inR cross 0 20 = false := by simpa using hC
      rw [hC'] at hcc
      have HC := Lib.hid hcc
      have HV := Lib.hid (leastV_no (show (housesB rs && inR cross 0 20) = false by rw [hC', Bool.and_false]))
      clear hcc hB hC hC'
      go_enter Try.func20, Try.ntmps20
      go_wp2_with fail
      refine H.out.mono ?_
      rintro e w1 ⟨h1, _⟩
      obtain ⟨A1, c1, rfl, _, ho, hb⟩ := h1 HB.out
      have HB1 := Lib.hid hb
      clear h1 hb ho
      go_wp2_with (go_at_call 48; ((with_reducible refine (HC.out _).mono ?_); rintro e w' ⟨rfl, rfl⟩))
      go_ret
      exact ⟨ret_int HV.out.symm, HB1.out⟩
  · have hB' : housesB rs = false := by simpa using hB
    have HB := Lib.hid hB'
    have HV := Lib.hid (leastV_no (show (housesB rs && inR cross 0 20) = false by rw [hB']; rfl))
    clear hcc hB hB'
    go_enter Try.func20, Try.ntmps20
    go_wp2_with fail
    refine H.out.mono ?_
    rintro e w1 ⟨_, h2⟩
    obtain ⟨rfl, hb⟩ := h2 HB.out
    have HB1 := Lib.hid hb
    clear h2 hb
    go_wp2
    go_ret
    exact ⟨ret_int HV.out.symm, HB1.out⟩
end Go.Proofs.Ytlgeoilnjgojnaa
