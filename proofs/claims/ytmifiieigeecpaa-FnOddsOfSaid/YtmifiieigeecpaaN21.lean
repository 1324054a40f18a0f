/- The walk of the law FnOddsOf. No condition. -/
import Derived.Test.YtmifiieigeecpaaN19
import Derived.Test.YtmifiieigeecpaaN11
import Derived.Test.YtmifiieigeecpaaN8g
import Derived.Test.YtmifiieigeecpaaEq
import Derived.Test.YtmifiieigeecpaaEx
namespace Go.Proofs.Ytmifiieigeecpaa
open Go.RowKit

section
theorem odd_count (f : Nat → Nat) (n : Nat) : (((List.range n).filter fun i => f i % 2 == 1).length) % 2 = (((List.range n).map f).sum) % 2 := by
  induction n with
  | zero => rfl
  | succ n ih =>
    rw [List.range_succ, List.filter_append, List.length_append, List.map_append, List.sum_append]
    by_cases h : f n % 2 = 1
    · simp [h]; omega
    · simp [h]; omega
theorem sum_one (n a : Nat) (h : a < n) : ((List.range n).map fun i => if a = i then 1 else 0).sum = 1 := by
  induction n with
  | zero => omega
  | succ n ih =>
    rw [List.range_succ, List.map_append, List.sum_append]
    by_cases h2 : a = n
    · subst h2
      have : ∀ m, m ≤ a → ((List.range m).map fun i => if a = i then 1 else 0).sum = 0 := by
        intro m
        induction m with
        | zero => intro _; rfl
        | succ m ihm =>
          intro hm
          rw [List.range_succ, List.map_append, List.sum_append, ihm (by omega)]
          simp; omega
      rw [this a (Nat.le_refl _)]; simp
    · rw [ih (by omega)]; simp [h2]
theorem sum_add (f g : Nat → Nat) (l : List Nat) : (l.map fun i => f i + g i).sum = (l.map f).sum + (l.map g).sum := by
  induction l with
  | nil => rfl
  | cons a l ih => simp only [List.map_cons, List.sum_cons, ih]; omega
theorem deg_sum {n : Nat} {ss : List St} (h : ∀ s ∈ ss, s.1 < n ∧ s.2.1 < n) : ((List.range n).map (degT ss)).sum = 2 * ss.length := by
  induction ss with
  | nil =>
    have : ∀ l : List Nat, (l.map (degT [])).sum = 0 := fun l => by
      induction l with
      | nil => rfl
      | cons a l ih => rw [List.map_cons, List.sum_cons, ih]; rfl
    rw [this]; rfl
  | cons s ss ih =>
    have h1 := h s List.mem_cons_self
    have e : (List.range n).map (degT (s :: ss)) = (List.range n).map fun i => ends1 i s + degT ss i := List.map_congr_left fun i _ => by simp [degT]
    rw [e, sum_add, ih (fun t ht => h t (List.mem_cons_of_mem _ ht))]
    have e2 : ((List.range n).map fun i => ends1 i s).sum = 2 := by
      have : ((List.range n).map fun i => ends1 i s) = (List.range n).map fun i => (if s.1 = i then 1 else 0) + (if s.2.1 = i then 1 else 0) := rfl
      rw [this, sum_add, sum_one n _ h1.1, sum_one n _ h1.2]
    rw [e2, List.length_cons]; omega
theorem odds_even {n : Nat} {ss : List St} (h : ∀ s ∈ ss, s.1 < n ∧ s.2.1 < n) : (oddsTo n ss).length % 2 = 0 := by
  unfold oddsTo
  rw [List.length_map, odd_count, deg_sum h]; omega
theorem odds_twice (n : Nat) (ss : List St) : oddsTo n (ss ++ ss) = [] := by
  unfold oddsTo
  have : (List.range n).filter (fun i => degT (ss ++ ss) i % 2 == 1) = [] := by
    rw [List.filter_eq_nil_iff]
    intro i _
    have : degT (ss ++ ss) i = degT ss i + degT ss i := by simp [degT]
    rw [this]; simp; omega
  rw [this]; rfl
theorem oddsV_even {n : Int} {rs : List (List Int)} : (oddsV n rs).length % 2 = 0 := by
  unfold oddsV
  split
  · rename_i h
    obtain ⟨m, rfl, _, _, _, hok, _⟩ := townB_parts h
    rw [Int.toNat_natCast]
    exact odds_even (st_lt hok)
  · rfl
theorem oddsV_twice {n : Int} {rs : List (List Int)} : oddsV n (rs ++ rs) = [] := by
  unfold oddsV
  split
  · rw [List.map_append]; exact odds_twice _ _
  · rfl
theorem oddsV_sorted {n : Int} {rs : List (List Int)} : (oddsV n rs).Pairwise (· < ·) := by
  unfold oddsV
  split
  · unfold oddsTo
    rw [List.pairwise_map]
    refine List.Pairwise.imp (R := (· < ·)) (fun h => Int.ofNat_lt.2 h) ?_
    exact List.Pairwise.filter _ List.pairwise_lt_range
  · exact List.Pairwise.nil
end

set_option maxRecDepth 100000 in
set_option maxHeartbeats 1000000 in
theorem ascends_any (A : Option Addr) (c : Nat) (q : List Int) (w : World) (hr : Ints w w.heap.size A q) (hl : q.length ≤ 1000) (hs : q.Pairwise (· < ·)) :
    Calls Try.prog 26 #[.slice A q.length c] w fun e w' => e = .returned (.bool true) ∧ ∃ n, w' = w.drewN n := by
  have HS := Lib.hid hs
  clear hs
  go_enter Try.func26, Try.ntmps26
  go_wp2
  go_loopw [3] (fun i wr => ∃ k : Nat, 1 ≤ k ∧ (k ≤ q.length ∨ k = 1) ∧ i = .int .i64 k ∧ ∃ n, wr = w.drewN n) (fun i _ => q.length - (intOf i).toNat)
  case atStart => exact ⟨1, by omega, by omega, rfl, 0, rfl⟩
  case round =>
    obtain ⟨k, hk1, hk, rfl, n, rfl⟩ := hrel
    by_cases hlt : k < q.length
    · obtain ⟨m, hm⟩ : ∃ m, k = m + 1 := ⟨k - 1, by omega⟩
      obtain ⟨b, o, rfl, hb, hc⟩ := hr.open (by simp; omega)
      have x1 := ints_at hc hlt
      have x2 := ints_at hc (show m < q.length by omega)
      have hlt2 := List.pairwise_iff_getElem.1 HS.out m k (by omega) hlt (by omega)
      obtain ⟨u, hu⟩ : ∃ u, q[k] = u := ⟨_, rfl⟩
      obtain ⟨v, hv⟩ : ∃ v, q[m]'(by omega) = v := ⟨_, rfl⟩
      rw [hu] at x1 hlt2
      rw [hv] at x2 hlt2
      have hmI : (k : Int) - 1 = (m : Int) := by omega
      have hmw : IntKind.i64.wrap ((k : Int) - 1) = (m : Int) := by rw [hmI]; exact IntWalk.i64_in _ (by omega)
      have hkI : (k : Int) < q.length := by omega
      have hmq : (m : Int) < q.length := by omega
      have hk0 : (0 : Int) ≤ k := by omega
      have hm0 : (0 : Int) ≤ m := by omega
      have hd : decide (u ≤ v) = false := decide_eq_false (by omega)
      clear hc hu hv hm
      go_wp2
      go_quiet (fail)
      go_simp
      clear hmw hmI hd
      go_wp2
      go_roundw
      case rel => exact ⟨k + 1, by omega, by omega, by go_num, _, rfl⟩
      case measure => simp [intOf]; omega
    · go_wp2
      go_ret
      exact ⟨rfl, _, rfl⟩
end Go.Proofs.Ytmifiieigeecpaa
