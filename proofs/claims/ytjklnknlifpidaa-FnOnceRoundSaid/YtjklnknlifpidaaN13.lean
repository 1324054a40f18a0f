/- slices.Repeat of one number. No condition. -/
import Derived.Test.YtjklnknlifpidaaN10
import Derived.Laws.CopyOwn
namespace Go.Proofs.Ytjklnknlifpidaa
open Go.RowKit

set_option maxRecDepth 100000 in
theorem mul_small (n : Nat) (hn : n ≤ 5) (w : World) : Calls Try.prog 62 #[.int .u64 1, .int .u64 (n : Int)] w fun e w' => e = .returned (.tuple #[.int .u64 0, .int .u64 (n : Int)]) ∧ w = w' := by
  have h : n = 0 ∨ n = 1 ∨ n = 2 ∨ n = 3 ∨ n = 4 ∨ n = 5 := by omega
  rcases h with rfl | rfl | rfl | rfl | rfl | rfl
  all_goals
    go_enter Try.func62, Try.ntmps62
    go_wp2_with fail
    go_in
    go_wp2_with fail
    go_ret2
    exact ⟨rfl, rfl⟩

def repL (n m : Nat) (v : Int) : List Value := List.replicate m (.int .i64 v) ++ List.replicate (n - m) (.int .i64 0)
theorem repL_put {n m c : Nat} {v : Int} (h : m + c ≤ n) : splice (repL n m v) m (List.replicate c (.int .i64 v)) = repL n (m + c) v := by
  unfold splice repL
  rw [List.take_append_of_le_length (by simp), List.take_of_length_le (by simp), List.drop_append]
  simp only [List.length_replicate]
  rw [List.drop_of_length_le (by simp), List.nil_append, List.drop_replicate, ← List.append_assoc, List.replicate_append_replicate]
  congr 2
  omega
theorem repL_len {n m : Nat} {v : Int} (h : m ≤ n) : (repL n m v).length = n := by simp [repL]; omega
theorem repL_get {n m j : Nat} {v : Int} (h : j < m) : (repL n m v)[j]? = some (.int .i64 v) := by
  unfold repL; rw [List.getElem?_append_left (by simpa using h)]; simp [h]
theorem one_src {w : World} {g j : Nat} {v : Int} {u : Value} (hc : w.cell? ⟨g, 0, none⟩ = some (.int .i64 v)) (hj : (List.replicate 1 (Value.int .i64 v))[j]? = some u) : w.cell? ((⟨g, 0, none⟩ : Addr).add j) = some u := by
  match j, hj with
  | 0, hj => simp at hj; rw [← hj]; exact hc
theorem copy_src {w : World} {g n m c j : Nat} {v : Int} {u : Value} (hc : w.heap[g]? = some (.cells (repL n m v).toArray 3 (0, 0))) (hj : (List.replicate (Nat.min m c) (Value.int .i64 v))[j]? = some u) : w.drew.cell? ((⟨g, 0, none⟩ : Addr).add j) = some u := by
  have hlt : j < Nat.min m c := by
    have := (List.getElem?_eq_some_iff.1 hj).1
    simpa using this
  have hu : u = .int .i64 v := by
    rw [List.getElem?_replicate, if_pos hlt] at hj
    exact (Option.some.inj hj).symm
  subst hu
  have h2 : w.cell? ⟨g, j, none⟩ = some (.int .i64 v) := by
    rw [cell_of_row w _ _ _ _ _ hc]
    have := repL_get (n := n) (m := m) (j := j) (v := v) (Nat.lt_of_lt_of_le hlt (Nat.min_le_left _ _))
    simpa using this
  rw [Addr.add_lit, Nat.zero_add]
  exact h2
set_option maxRecDepth 100000 in
set_option maxHeartbeats 4000000 in
theorem repeat_any (g n : Nat) (v : Int) (w : World) (hg : g < w.heap.size) (hc : w.cell? ⟨g, 0, none⟩ = some (.int .i64 v)) (hn1 : 1 ≤ n) (hn5 : n ≤ 5) :
    Calls Try.prog 58 #[.slice (some ⟨g, 0, none⟩) 1 1, .int .i64 (n : Int)] w fun e w' => e = .returned (.slice (some ⟨w.heap.size, 0, none⟩) n n) ∧ w'.heap[w.heap.size]? = some (.cells (List.replicate n (Value.int .i64 v)).toArray 3 (0, 0)) ∧ Below w.heap.size w w' := by
  obtain ⟨i0, hi0, hz0, hz1, hz2⟩ := info_parts Try.infoI
  have HM := Lib.hid (mul_small n hn5)
  have hn0 : decide ((n : Int) < 0) = false := decide_eq_false (by omega)
  have hnU : decide ((9223372036854775807 : Int) < (n : Int)) = false := decide_eq_false (by omega)
  have hw1 : IntKind.u64.wrap (n : Int) = (n : Int) := by rw [IntKind.wrap_u64]; omega
  have hw2 : IntKind.i64.wrap (n : Int) = (n : Int) := IntWalk.i64_in _ (by omega)
  go_enter Try.func58, Try.ntmps58
  go_wp2_with (first | (go_at_call 62; (with_reducible refine (HM.out _).mono ?_); rintro e w' ⟨rfl, rfl⟩) | (at_make; refine wpList_make_full _ rfl (.tmp 29) (.tmp 29) _ rfl w.heap.size 3 i0 (.int .i64 0) 1 Try.underlying24 hi0 hz0 hz1 _ _ _ _ n rfl rfl rfl rfl (by rw [hz2]; omega) (by unfold maxLen; omega) (Nat.le_refl _) ?_))
  intro w1 hown hg1
  have hB1 : Below w.heap.size w w1 := (Below.refl _ _).grown hg1 (Nat.le_refl _) (by simp)
  have hh1 : w1.heap[w.heap.size]? = some (.cells (repL n 0 v).toArray 3 (0, 0)) := by
    have := own_heapN hown
    rw [toList_madeCells_one] at this
    exact this
  have hc1 := cell_keep hB1 hg hc
  have HH1 := Lib.hid hh1
  have HB1 := Lib.hid hB1
  clear hown hg1 hh1 hB1
  have hsz1 : (Try.prog.info? 3).map (·.size) = some 1 := by rw [hi0]; simp [hz1]
  have HSZ := Lib.hid hsz1
  clear hsz1
  have hmin : (Nat.min 1 n) = 1 := by show min 1 n = 1; omega
  have HMIN := Lib.hid hmin
  clear hmin
  go_wp2_with (refine wpList_copy_splice rfl (.tmp 31) (.tmp 32) 24 24 rfl 3 Try.underlying24 HSZ.out _ _ _ _ _ _ rfl rfl w.heap.size 0 (repL n 0 v) 3 HH1.out (List.replicate 1 (.int .i64 v)) (by rw [HMIN.out]; rfl) (fun _ => ⟨rfl, _, rfl, fun j u hj => one_src hc1 hj⟩) (by rw [repL_len (by omega)]; simp; omega) (by simp [Value.oneCell']) w.heap.size w HB1.out (Nat.le_refl _) ?_)
  intro w2 HH2 hb2
  have HB2 := Lib.hid hb2
  clear hb2
  have HH3 := Lib.hid (show w2.heap[w.heap.size]? = some (.cells (repL n 1 v).toArray 3 (0, 0)) by have := HH2.out; rw [show [Value.int .i64 v] = List.replicate 1 (Value.int .i64 v) from rfl, repL_put (by omega)] at this; exact this)
  clear HH2 HH1 hc1
  go_wp2_with fail
  go_loopw [8] (fun i wr => ∃ m : Nat, 1 ≤ m ∧ m ≤ n ∧ i = .int .i64 m ∧ Hid (wr.heap[w.heap.size]? = some (.cells (repL n m v).toArray 3 (0, 0))) ∧ Below w.heap.size w wr) (fun i _ => n - (intOf i).toNat)
  case atStart => exact ⟨1, by omega, by omega, rfl, HH3, HB2.out⟩
  case round =>
    obtain ⟨m, hm1, hmn, rfl, HH, hbr⟩ := hrel
    have HBR := Lib.hid hbr
    clear hbr HH3 HB2
    by_cases hlt : m < n
    · have hm0 : (0 : Int) ≤ m := by omega
      have hmI : (m : Int) < n := by omega
      have hmI2 : (m : Int) ≤ n := by omega
      go_wp2_with fail
      have hnm : ¬ n = m := by omega
      have hmn2 : ¬ m = n := by omega
      obtain ⟨c, hcE⟩ : ∃ c, Nat.min m (n - m) = c := ⟨_, rfl⟩
      have hcb : m + c ≤ n := by rw [← hcE]; have : Nat.min m (n - m) ≤ n - m := Nat.min_le_right m (n - m); omega
      have hc1 : 1 ≤ c := by rw [← hcE]; exact Nat.le_min.2 ⟨hm1, by omega⟩
      have hcopy : ∀ j u, (List.replicate c (Value.int .i64 v))[j]? = some u → wr.drew.cell? ((⟨w.heap.size, 0, none⟩ : Addr).add j) = some u := fun j u hj => copy_src HH.out (by rw [hcE]; exact hj)
      have hone : ∀ u ∈ List.replicate c (Value.int .i64 v), u.oneCell' = true := fun u hu => by rw [(List.mem_replicate.1 hu).2]; rfl
      have hfit : m + (List.replicate c (Value.int .i64 v)).length ≤ (repL n m v).length := by rw [repL_len hmn, List.length_replicate]; omega
      have HCP := Lib.hid hcopy
      have HON := Lib.hid hone
      have HFT := Lib.hid hfit
      have HLN := Lib.hid (show (List.replicate c (Value.int .i64 v)).length = Nat.min m (n - m) by rw [List.length_replicate, hcE])
      have HPU := Lib.hid (repL_put (v := v) hcb)
      obtain ⟨cs, hcs⟩ : ∃ cs, List.replicate c (Value.int .i64 v) = cs := ⟨_, rfl⟩
      have HLC := Lib.hid (show cs.length = c by rw [← hcs, List.length_replicate])
      rw [hcs] at HCP HON HFT HLN HPU
      clear hcopy hone hfit hcE hcs
      go_region_law (refine step_copy_splice (w := wr.drew) (by rfl) (.tmp 41) (.tmp 44) 24 24 (by rfl) 3 Try.underlying24 HSZ.out (some ⟨w.heap.size, m, none⟩) (some ⟨w.heap.size, 0, none⟩) (n - m) (n - m) m n (by go_simp) (by go_simp) w.heap.size m (repL n m v) 3 HH.out cs HLN.out (fun _ => ⟨rfl, _, rfl, HCP.out⟩) HFT.out HON.out w.heap.size w (below_drew HBR.out) (Nat.le_refl _) ?_; rw [HLC.out]; intro w3 HH4 hb4)
      all_goals
        have hw3 : IntKind.i64.wrap ((m : Int) + c) = (m : Int) + c := IntWalk.i64_in _ (by omega)
        have HF := Lib.hid (show w3.heap[w.heap.size]? = some (.cells (repL n (m + c) v).toArray 3 (0, 0)) by have := HH4.out; rw [HPU.out] at this; exact this)
        clear HH4
        go_simp
        clear hw3
        go_wp2_with fail
        go_roundw
        case rel => exact ⟨m + c, by omega, by omega, by go_num, HF, hb4⟩
        case measure => simp [intOf]; omega
    · have hmm : m = n := by omega
      subst hmm
      have HF := Lib.hid (show wr.heap[w.heap.size]? = some (.cells (List.replicate m (Value.int .i64 v)).toArray 3 (0, 0)) by have := HH.out; simpa [repL] using this)
      go_wp2_with fail
      go_ret
      exact ⟨rfl, HF.out, HBR.out⟩
end Go.Proofs.Ytjklnknlifpidaa
