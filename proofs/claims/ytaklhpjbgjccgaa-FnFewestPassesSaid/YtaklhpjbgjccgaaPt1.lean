/- Passes that are tried: nextBoxes, IsSorted, the closure, ContainsFunc. No condition. -/
import Derived.Test.YtaklhpjbgjccgaaPt0
import Derived.Test.YtaklhpjbgjccgaaG6
import Derived.Test.YtaklhpjbgjccgaaShelf
import Derived.Test.YtaklhpjbgjccgaaP2
import Derived.Test.YtaklhpjbgjccgaaS8
import Derived.Test.YtaklhpjbgjccgaaMark2
namespace Go.Proofs.Ytaklhpjbgjccgaa
open Go.RowKit

theorem ints_atD0 {w : World} {b o : Nat} {zs : List Int} (hc : ∀ j u, (zs.map (Value.int .i64))[j]? = some u → w.cell? ⟨b, o + j, none⟩ = some u) {k : Nat} (hk : k < zs.length) :
    w.cell? ⟨b, o + k, none⟩ = some (.int .i64 (zs.getD k 0)) := by rw [getD_get hk]; exact ints_at hc hk
theorem halfZ_set (bs : List Int) {i : Nat} (h : i < bs.length) (v : Int) : ((List.replicate i (0 : Int) ++ bs.drop i).map (Value.int .i64)).set i (.int .i64 v) = (List.replicate i (0 : Int) ++ v :: bs.drop (i + 1)).map (Value.int .i64) := by
  rw [← List.map_set, List.set_append_right _ _ (by simp), List.length_replicate, Nat.sub_self, ← List.getElem_cons_drop h]; rfl
theorem halfZ_zero (bs : List Int) (i : Nat) : List.replicate i (0 : Int) ++ 0 :: bs.drop (i + 1) = List.replicate (i + 1) 0 ++ bs.drop (i + 1) := by
  rw [List.replicate_succ']; simp
theorem halfZ_get (bs : List Int) {i : Nat} (v : Int) : ((List.replicate i (0 : Int) ++ v :: bs.drop (i + 1)).map (Value.int .i64))[i]? = some (.int .i64 v) := by
  rw [List.getElem?_map, List.getElem?_append_right (by simp), List.length_replicate, Nat.sub_self]; rfl
theorem halfZ_at (bs : List Int) {i : Nat} (h : i < bs.length) : ((List.replicate i (0 : Int) ++ bs.drop i).map (Value.int .i64))[i]? = some (.int .i64 (bs.getD i 0)) := by
  rw [← List.getElem_cons_drop h, getD_get h]
  exact halfZ_get bs _

set_option maxRecDepth 100000 in
set_option maxHeartbeats 4000000 in
theorem nextBoxes_any (g n base : Nat) (k : Int) (bs : List Int) (w : World) (hn : n = bs.length) (hown : w.ownsRow base 3 1 (.slice (some ⟨g, 0, none⟩) n n) n (bs.map (Value.int .i64))) (hl : n ≤ 100) (hb : ∀ j, j < n → 0 ≤ bs.getD j 0 ∧ bs.getD j 0 ≤ 100) :
    Calls Try.prog 101 #[.slice (some ⟨g, 0, none⟩) n n, .int .i64 k] w fun e w' => e = .returned (.bool (nextI k bs).2) ∧ w'.ownsRow base 3 1 (.slice (some ⟨g, 0, none⟩) n n) n ((nextI k bs).1.map (Value.int .i64)) ∧ w.grownBy w' (some g) := by
  have HN := Lib.hid hn
  have HB := Lib.hid hb
  have HO := Lib.hid hown
  obtain ⟨V, hV⟩ : ∃ V, nextI k bs = V := ⟨_, rfl⟩
  rw [hV]
  have HV := Lib.hid hV
  clear hn hb hown hV
  go_enter Try.func101, Try.ntmps101
  go_wp2
  go_loopw [8] (fun i wr => ∃ i' : Nat, i' ≤ n ∧ i = .int .i64 i' ∧ Hid (V = (List.replicate i' 0 ++ (nextI k (bs.drop i')).1, (nextI k (bs.drop i')).2)) ∧ wr.ownsRow base 3 1 (.slice (some ⟨g, 0, none⟩) n n) n ((List.replicate i' (0 : Int) ++ bs.drop i').map (Value.int .i64)) ∧ w.grownBy wr (some g)) (fun i _ => n - (intOf i).toNat)
  case atStart => exact ⟨0, by omega, rfl, Lib.hid (by rw [← HV.out]; rfl), HO.out, World.grownBy.refl w _⟩
  case round =>
    obtain ⟨i, hi, rfl, HS, hown, hg⟩ := hrel
    have HG := Lib.hid hg
    have HN2 := HN.out
    by_cases hlt : i < n
    · have hat := hown.cellAt i (by omega)
      rw [halfZ_at bs (by omega)] at hat
      have hfr := hown.frozenAt i
      have hbi := HB.out i hlt
      have HST := Lib.hid (show nextI k (bs.drop i) = if bs.getD i 0 + 1 < k then ((bs.getD i 0 + 1) :: bs.drop (i + 1), true) else (0 :: (nextI k (bs.drop (i + 1))).1, (nextI k (bs.drop (i + 1))).2) by
        rw [← List.getElem_cons_drop (show i < bs.length by omega), getD_get (show i < bs.length by omega)]; rfl)
      obtain ⟨b, hbe⟩ : ∃ b, bs.getD i 0 = b := ⟨_, rfl⟩
      rw [hbe] at hat hbi HST
      obtain ⟨hb0, hb1⟩ := hbi
      have hst := hown.stored i (.int .i64 (b + 1))
      rw [halfZ_set bs (by omega)] at hst
      have hat2 := hst.1.cellAt i (by omega)
      rw [halfZ_get bs] at hat2
      have hfr2 := hst.1.frozenAt i
      have hst2 := hst.1.stored i (.int .i64 0)
      have hiI : (i : Int) < (n : Int) := by omega
      have hi0 : (0 : Int) ≤ (i : Int) := by omega
      obtain ⟨W1, hW1⟩ : ∃ W1, wr.setCell ⟨g, i, none⟩ (.int .i64 (b + 1)) = W1 := ⟨_, rfl⟩
      rw [hW1] at hst hat2 hfr2 hst2
      by_cases hk : b + 1 < k
      · have hd : decide (b + 1 < k) = true := decide_eq_true hk
        have HF := Lib.hid (show V = (List.replicate i 0 ++ (b + 1) :: bs.drop (i + 1), true) by rw [HS.out, HST.out, if_pos hk])
        have HW := Lib.hid (And.intro hst.1 (grown_trans hg hst.2))
        clear hown hg hbe hst hst2 hk HN2
        go_wp2
        go_ret
        exact ⟨ret_bool (by rw [HF.out]), by rw [HF.out]; exact HW.out.1, HW.out.2⟩
      · have hd : decide (b + 1 < k) = false := decide_eq_false hk
        have HF := Lib.hid (show V = (List.replicate (i + 1) 0 ++ (nextI k (bs.drop (i + 1))).1, (nextI k (bs.drop (i + 1))).2) by rw [HS.out, HST.out, if_neg hk, List.replicate_succ']; simp)
        have HW := Lib.hid (show (W1.setCell ⟨g, i, none⟩ (.int .i64 0)).ownsRow base 3 1 (.slice (some ⟨g, 0, none⟩) n n) n ((List.replicate (i + 1) (0 : Int) ++ bs.drop (i + 1)).map (Value.int .i64)) ∧ w.grownBy (W1.setCell ⟨g, i, none⟩ (.int .i64 0)) (some g) from ⟨by
          have h1 := hst2.1
          have h2 : ((List.replicate i (0 : Int) ++ (b + 1) :: bs.drop (i + 1)).map (Value.int .i64)).set i (.int .i64 0) = (List.replicate (i + 1) (0 : Int) ++ bs.drop (i + 1)).map (Value.int .i64) := by
            rw [← List.map_set, List.set_append_right _ _ (by simp), List.length_replicate, Nat.sub_self, ← halfZ_zero]; rfl
          rwa [h2] at h1, grown_trans (grown_trans hg hst.2) hst2.2⟩)
        clear hown hg hbe hst hst2 hk HN2
        go_wp2
        go_roundw
        case rel => exact ⟨i + 1, by omega, by go_num, HF, HW.out.1, HW.out.2⟩
        case measure => simp [intOf]; omega
    · have hin : i = bs.length := by omega
      have HF := Lib.hid (show V = (List.replicate i 0, false) by rw [HS.out, hin, List.drop_length]; simp [nextI])
      have HF2 := Lib.hid (show List.replicate i (0 : Int) ++ bs.drop i = List.replicate i 0 by rw [hin, List.drop_length]; simp)
      clear hg hin HN2
      go_wp2
      go_ret
      exact ⟨ret_bool (by rw [HF.out]), by rw [HF.out]; have := hown; rw [HF2.out] at this; exact this, HG.out⟩

set_option maxRecDepth 100000 in
set_option maxHeartbeats 2000000 in
theorem isSorted_any (A : Option Addr) (c : Nat) (r : List Int) (w : World) (hr : Ints w w.heap.size A r) (hv : rowB 9 r = true) :
    Calls Try.prog 77 #[.slice A r.length c] w fun e w' => e = .returned (.bool (eqI r (tab r.length fun j => (j : Int)))) ∧ ∃ z, w' = w.drewN z := by
  obtain ⟨V, hV⟩ : ∃ V, eqI r (tab r.length fun j => (j : Int)) = V := ⟨_, rfl⟩
  rw [hV]
  have HV := Lib.hid hV
  have HR := Lib.hid hv
  have hl9 := rowB_len hv
  clear hV hv
  go_enter Try.func77, Try.ntmps77
  go_wp2
  go_loopw [3] (fun i wr => ∃ m : Int, i = .int .i64 m ∧ m ≤ (r.length : Int) - 1 ∧ -1 ≤ m ∧ Hid (∀ j : Nat, m ≤ (j : Int) → j + 1 < r.length → ¬ r.getD (j + 1) 0 < r.getD j 0) ∧ ∃ z, wr = w.drewN z) (fun i _ => (intOf i + 1).toNat)
  case atStart => exact ⟨(r.length : Int) - 1, by go_num, by omega, by omega, Lib.hid (fun j h1 h2 => by omega), 0, rfl⟩
  case round =>
    obtain ⟨m, rfl, hm1, hm2, HS, z, hz⟩ := hrel
    have HZ := Lib.hid hz
    have hown : Own wr 0 w.heap.size A (r.map (Value.int .i64)) := by rw [hz]; exact hr
    by_cases hm0 : 0 < m
    · obtain ⟨i, rfl⟩ : ∃ i : Nat, m = ((i + 1 : Nat) : Int) := ⟨(m - 1).toNat, by omega⟩
      have hil : i + 1 < r.length := by omega
      obtain ⟨b, o, rfl, hb, hc⟩ := hown.open (by simp; omega)
      have hc1 := ints_atD0 hc hil
      have hc0 := ints_atD0 hc (show i < r.length by omega)
      have hless := fun q => Try.cmp_Less_int2 (r.getD (i + 1) 0) (r.getD i 0) (wr.drewN q)
      obtain ⟨x, hx⟩ : ∃ x, r.getD (i + 1) 0 = x := ⟨_, rfl⟩
      obtain ⟨y, hy⟩ : ∃ y, r.getD i 0 = y := ⟨_, rfl⟩
      rw [hx] at hc1
      rw [hy] at hc0
      rw [hx, hy] at hless
      obtain ⟨k, hk⟩ : ∃ k, i + 1 = k := ⟨_, rfl⟩
      rw [hk] at hc1 hil ⊢
      have HXY := Lib.hid (And.intro hx (And.intro hy hk))
      have hkw : IntKind.i64.wrap ((k : Int) - 1) = (i : Int) := by rw [show (k : Int) - 1 = (i : Int) by omega]; exact IntWalk.i64_in _ (by omega)
      have hkI : (k : Int) < r.length := by omega
      have hk0 : (0 : Int) ≤ (k : Int) := by omega
      have hiI : (i : Int) < r.length := by omega
      have hi0 : (0 : Int) ≤ (i : Int) := by omega
      have hkp : decide (0 < k) = true := decide_eq_true (by omega)
      by_cases hxy : x < y
      · have hd : decide (x < y) = true := decide_eq_true hxy
        rw [hd] at hless
        have HL := Lib.hid hless
        have HF := Lib.hid (show V = false by
          rw [← HV.out]
          refine decide_eq_false fun e => ?_
          have h1 : r.getD (i + 1) 0 = ((i + 1 : Nat) : Int) := by rw [e, getD_get (by rw [tab_length]; omega), tab_get (by omega)]
          have h2 : r.getD i 0 = (i : Int) := by rw [e, getD_get (by rw [tab_length]; omega), tab_get (by omega)]
          omega)
        clear hc hless hx hy hxy hown hz hk
        go_wp2
        go_quiet ((go_at_call 100; exact Calls.quiet_of ((HL.out _).mono fun _ _ ⟨h1, h2⟩ => ⟨h1, 0, h2⟩)))
        go_simp
        go_wp2
        go_ret
        exact ⟨ret_bool HF.out.symm, by rw [HZ.out]; exact ⟨_, World.drewN_drewN ..⟩⟩
      · have hd : decide (x < y) = false := decide_eq_false hxy
        rw [hd] at hless
        have HL := Lib.hid hless
        have HN := Lib.hid (show ∀ j : Nat, (i : Int) ≤ (j : Int) → j + 1 < r.length → ¬ r.getD (j + 1) 0 < r.getD j 0 from fun j h1 h2 => by
          by_cases e : j = i
          · subst e; rw [hx, hy]; exact hxy
          · exact HS.out j (by omega) h2)
        clear hc hless hx hy hxy hown hz hk HS
        go_wp2
        go_quiet ((go_at_call 100; exact Calls.quiet_of ((HL.out _).mono fun _ _ ⟨h1, h2⟩ => ⟨h1, 0, h2⟩)))
        go_simp
        go_wp2
        go_roundw
        case rel => exact ⟨(i : Int), by have := HXY.out.2.2; exact congrArg (Value.int .i64) (by omega), by omega, by omega, Lib.hid (fun j h1 h2 => by have := HN.out j h1 h2; omega), by rw [HZ.out]; exact ⟨_, World.drewN_drewN ..⟩⟩
        case measure => have := HXY.out.2.2; simp [intOf]; omega
    · have hmd : decide (0 < m) = false := decide_eq_false hm0
      have HF := Lib.hid (show V = true by
        rw [← HV.out]
        exact decide_eq_true (row_adj HR.out fun j hj => HS.out j (by omega) hj))
      clear hown hz HS
      go_wp2
      go_ret
      exact ⟨ret_bool HF.out.symm, z, HZ.out⟩

set_option maxRecDepth 100000 in
set_option maxHeartbeats 2000000 in
theorem sameRow_any (bp : Nat) (A B : Option Addr) (c d : Nat) (xs ys : List Int) (w : World) (hx : Ints w w.heap.size A xs) (hy : Ints w w.heap.size B ys) (hbp : w.cell? ⟨bp, 0, none⟩ = some (.slice B ys.length d)) (hl : xs.length ≤ 1000) (hl2 : ys.length ≤ 1000) (hp : 0 < xs.length) (hp2 : 0 < ys.length) :
    Calls Try.prog 102 #[.slice A xs.length c, .pointer (some ⟨bp, 0, none⟩)] w fun e w' => e = .returned (.bool (eqI xs ys)) ∧ ∃ z, w' = w.drewN z := by
  obtain ⟨b1, o1, rfl, _, hc1⟩ := hx.open (by simp; omega)
  obtain ⟨b2, o2, rfl, _, hc2⟩ := hy.open (by simp; omega)
  have heq := Try.slices_Equal_int b1 o1 xs.length c b2 o2 ys.length d xs ys w (Nat.le_refl _) (Nat.le_refl _) (by omega) (by omega) (fun j hj => ints_atD0 hc1 hj) (fun j hj => ints_atD0 hc2 hj)
  have he : (xs.take xs.length == ys.take ys.length) = eqI xs ys := by
    rw [List.take_length, List.take_length, Bool.eq_iff_iff, beq_iff_eq]
    simp [eqI]
  rw [he] at heq
  have HE := Lib.hid heq
  clear hc1 hc2 heq he
  go_enter Try.func102, Try.ntmps102
  go_wp2_with (go_at_call 103; refine HE.out.mono ?_; rintro e w' ⟨rfl, q, rfl⟩)
  go_ret
  exact ⟨rfl, q, rfl⟩

/-- The first row of which a test holds. -/
def firstAt (P : List Int → Bool) (rs : List (List Int)) : Int := if rs.any P then ((rs.findIdx P : Nat) : Int) else -1

set_option maxRecDepth 100000 in
set_option maxHeartbeats 2000000 in
theorem indexSame_any (A : Option Addr) (c0 bp : Nat) (B : Option Addr) (d : Nat) (rs : List (List Int)) (ys : List Int) (w : World) (hr : Grid w 0 w.heap.size A rs) (hy : Ints w w.heap.size B ys) (hbp : w.cell? ⟨bp, 0, none⟩ = some (.slice B ys.length d)) (hl : rs.length ≤ 1000000) (hall : ∀ r ∈ rs, 0 < r.length ∧ r.length ≤ 1000) (hp2 : 0 < ys.length) (hl2 : ys.length ≤ 1000) :
    Calls Try.prog 99 #[.slice A rs.length c0, .func (Fn.func 102) #[] #[.pointer (some ⟨bp, 0, none⟩)]] w fun e w' => (∃ i : Int, e = .returned (.int .i64 i) ∧ decide (0 ≤ i) = decide (ys ∈ rs)) ∧ ∃ z, w' = w.drewN z := by
  have HA := Lib.hid hall
  clear hall
  go_enter Try.func99, Try.ntmps99
  go_wp2
  go_loopw [8] (fun i wr => ∃ k : Nat, k ≤ rs.length ∧ i = .int .i64 k ∧ Hid (ys ∉ rs.take k) ∧ ∃ z, wr = w.drewN z) (fun i _ => rs.length - (intOf i).toNat)
  case atStart => exact ⟨0, by omega, rfl, Lib.hid (by simp), 0, rfl⟩
  case round =>
    obtain ⟨k, hk, rfl, HN, z, hz⟩ := hrel
    have HZ := Lib.hid hz
    by_cases hlt : k < rs.length
    · have hg : Grid wr 0 wr.heap.size A rs := by rw [hz]; exact hr
      have hy2 : Ints wr wr.heap.size B ys := by rw [hz]; exact hy
      have hbp2 : wr.cell? ⟨bp, 0, none⟩ = some (.slice B ys.length d) := by rw [hz]; exact hbp
      obtain ⟨b, o, R, cR, rfl, hb, hcell, hcR, hrow⟩ := hg.open hlt
      have hrk := HA.out _ (List.getElem_mem hlt)
      have hsm := sameRow_any bp R B cR d rs[k] ys wr hrow hy2 hbp2 hrk.2 hl2 hrk.1 hp2
      have HT := Lib.hid (List.take_succ_eq_append_getElem hlt)
      have HM := Lib.hid (List.getElem_mem hlt)
      obtain ⟨r, hre⟩ : ∃ r, rs[k] = r := ⟨_, rfl⟩
      rw [hre] at hcell hsm HT HM
      obtain ⟨m, hm⟩ : ∃ m, r.length = m := ⟨_, rfl⟩
      rw [hm] at hcell hsm
      have hkI : (k : Int) < rs.length := by omega
      have hk0 : (0 : Int) ≤ (k : Int) := by omega
      by_cases he : r = ys
      · rw [show eqI r ys = true from decide_eq_true he] at hsm
        have HS := Lib.hid hsm
        have HF := Lib.hid (show decide ((0 : Int) ≤ (k : Int)) = decide (ys ∈ rs) by rw [decide_eq_true hk0]; exact (decide_eq_true (by rw [← he]; exact HM.out)).symm)
        clear hsm hre hm hg hy2 hbp2 hcR hrow hz he
        go_wp2_with (go_at_call 102; refine HS.out.mono ?_; rintro e w' ⟨rfl, q, rfl⟩)
        go_ret
        exact ⟨⟨_, rfl, HF.out⟩, by rw [HZ.out]; exact ⟨_, World.drewN_drewN ..⟩⟩
      · rw [show eqI r ys = false from decide_eq_false he] at hsm
        have HS := Lib.hid hsm
        have HNN := Lib.hid (show ys ∉ rs.take (k + 1) by
          rw [HT.out, List.mem_append, List.mem_singleton]
          rintro (h | h)
          · exact HN.out h
          · exact he h.symm)
        clear hsm hre hm hg hy2 hbp2 hcR hrow hz he
        go_wp2_with (go_at_call 102; refine HS.out.mono ?_; rintro e w' ⟨rfl, q, rfl⟩)
        go_roundw
        case rel => exact ⟨k + 1, by omega, by go_num, Lib.hid HNN.out, by rw [HZ.out]; exact ⟨_, World.drewN_drewN ..⟩⟩
        case measure => simp [intOf]; omega
    · have hkn : k = rs.length := by omega
      have HF := Lib.hid (show decide ((0 : Int) ≤ (-1 : Int)) = decide (ys ∈ rs) by
        have := HN.out
        rw [hkn, List.take_length] at this
        rw [decide_eq_false this]; rfl)
      clear hz hkn HN
      go_wp2
      go_ret
      exact ⟨⟨-1, rfl, HF.out⟩, z, HZ.out⟩

set_option maxRecDepth 100000 in
theorem containsSame_any (A : Option Addr) (c0 bp : Nat) (B : Option Addr) (d : Nat) (rs : List (List Int)) (ys : List Int) (w : World) (hr : Grid w 0 w.heap.size A rs) (hy : Ints w w.heap.size B ys) (hbp : w.cell? ⟨bp, 0, none⟩ = some (.slice B ys.length d)) (hl : rs.length ≤ 1000000) (hall : ∀ r ∈ rs, 0 < r.length ∧ r.length ≤ 1000) (hp2 : 0 < ys.length) (hl2 : ys.length ≤ 1000) :
    Calls Try.prog 76 #[.slice A rs.length c0, .func (Fn.func 102) #[] #[.pointer (some ⟨bp, 0, none⟩)]] w fun e w' => e = .returned (.bool (decide (ys ∈ rs))) ∧ ∃ z, w' = w.drewN z := by
  have HI := Lib.hid (indexSame_any A c0 bp B d rs ys w hr hy hbp hl hall hp2 hl2)
  go_enter Try.func76, Try.ntmps76
  go_wp2_with (go_at_call 99; refine HI.out.mono ?_; rintro e w' ⟨⟨i, rfl, hi⟩, q, rfl⟩; have HII := Lib.hid hi; clear hi)
  go_ret
  exact ⟨ret_bool HII.out, q, rfl⟩

set_option maxRecDepth 100000 in
set_option maxHeartbeats 2000000 in
theorem indexSorted_any (A : Option Addr) (c0 n : Nat) (rs : List (List Int)) (w : World) (hr : Grid w 0 w.heap.size A rs) (hl : rs.length ≤ 1000000) (hall : ∀ r ∈ rs, rowB 9 r = true ∧ r.length = n) :
    Calls Try.prog 99 #[.slice A rs.length c0, .func (Fn.func 77) #[] #[]] w fun e w' => (∃ i : Int, e = .returned (.int .i64 i) ∧ decide (0 ≤ i) = decide ((tab n fun j => (j : Int)) ∈ rs)) ∧ ∃ z, w' = w.drewN z := by
  have HA := Lib.hid hall
  clear hall
  go_enter Try.func99, Try.ntmps99
  go_wp2
  go_loopw [8] (fun i wr => ∃ k : Nat, k ≤ rs.length ∧ i = .int .i64 k ∧ Hid ((tab n fun j => (j : Int)) ∉ rs.take k) ∧ ∃ z, wr = w.drewN z) (fun i _ => rs.length - (intOf i).toNat)
  case atStart => exact ⟨0, by omega, rfl, Lib.hid (by simp), 0, rfl⟩
  case round =>
    obtain ⟨k, hk, rfl, HN, z, hz⟩ := hrel
    have HZ := Lib.hid hz
    by_cases hlt : k < rs.length
    · have hg : Grid wr 0 wr.heap.size A rs := by rw [hz]; exact hr
      obtain ⟨b, o, R, cR, rfl, hb, hcell, hcR, hrow⟩ := hg.open hlt
      have hrk := HA.out _ (List.getElem_mem hlt)
      have hsm := isSorted_any R cR rs[k] wr hrow hrk.1
      rw [hrk.2] at hsm
      have HT := Lib.hid (List.take_succ_eq_append_getElem hlt)
      have HM := Lib.hid (List.getElem_mem hlt)
      obtain ⟨r, hre⟩ : ∃ r, rs[k] = r := ⟨_, rfl⟩
      rw [hre] at hcell hsm HT HM
      obtain ⟨m, hm⟩ : ∃ m, r.length = m := ⟨_, rfl⟩
      rw [hm] at hcell
      have hmn : m = n := by rw [← hm, ← hre]; exact hrk.2
      rw [hmn] at hcell
      have hkI : (k : Int) < rs.length := by omega
      have hk0 : (0 : Int) ≤ (k : Int) := by omega
      by_cases he : r = (tab n fun j => (j : Int))
      · rw [show eqI r (tab n fun j => (j : Int)) = true from decide_eq_true he] at hsm
        have HS := Lib.hid hsm
        have HF := Lib.hid (show decide ((0 : Int) ≤ (k : Int)) = decide ((tab n fun j => (j : Int)) ∈ rs) by rw [decide_eq_true hk0]; exact (decide_eq_true (by rw [← he]; exact HM.out)).symm)
        clear hsm hre hm hg hcR hrow hz he hrk hmn
        go_wp2_with (go_at_call 77; refine HS.out.mono ?_; rintro e w' ⟨rfl, q, rfl⟩)
        go_ret
        exact ⟨⟨_, rfl, HF.out⟩, by rw [HZ.out]; exact ⟨_, World.drewN_drewN ..⟩⟩
      · rw [show eqI r (tab n fun j => (j : Int)) = false from decide_eq_false he] at hsm
        have HS := Lib.hid hsm
        have HNN := Lib.hid (show (tab n fun j => (j : Int)) ∉ rs.take (k + 1) by
          rw [HT.out, List.mem_append, List.mem_singleton]
          rintro (h | h)
          · exact HN.out h
          · exact he h.symm)
        clear hsm hre hm hg hcR hrow hz he hrk hmn
        go_wp2_with (go_at_call 77; refine HS.out.mono ?_; rintro e w' ⟨rfl, q, rfl⟩)
        go_roundw
        case rel => exact ⟨k + 1, by omega, by go_num, Lib.hid HNN.out, by rw [HZ.out]; exact ⟨_, World.drewN_drewN ..⟩⟩
        case measure => simp [intOf]; omega
    · have hkn : k = rs.length := by omega
      have HF := Lib.hid (show decide ((0 : Int) ≤ (-1 : Int)) = decide ((tab n fun j => (j : Int)) ∈ rs) by
        have := HN.out
        rw [hkn, List.take_length] at this
        rw [decide_eq_false this]; rfl)
      clear hz hkn HN
      go_wp2
      go_ret
      exact ⟨⟨-1, rfl, HF.out⟩, z, HZ.out⟩

set_option maxRecDepth 100000 in
theorem containsSorted_any (A : Option Addr) (c0 n : Nat) (rs : List (List Int)) (w : World) (hr : Grid w 0 w.heap.size A rs) (hl : rs.length ≤ 1000000) (hall : ∀ r ∈ rs, rowB 9 r = true ∧ r.length = n) :
    Calls Try.prog 76 #[.slice A rs.length c0, .func (Fn.func 77) #[] #[]] w fun e w' => e = .returned (.bool (decide ((tab n fun j => (j : Int)) ∈ rs))) ∧ ∃ z, w' = w.drewN z := by
  have HI := Lib.hid (indexSorted_any A c0 n rs w hr hl hall)
  go_enter Try.func76, Try.ntmps76
  go_wp2_with (go_at_call 99; refine HI.out.mono ?_; rintro e w' ⟨⟨i, rfl, hi⟩, q, rfl⟩; have HII := Lib.hid hi; clear hi)
  go_ret
  exact ⟨ret_bool HII.out, q, rfl⟩
end Go.Proofs.Ytaklhpjbgjccgaa
