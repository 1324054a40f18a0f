/- impl.chainOver. No condition. -/
import Derived.Test.YtmbpcilgjolaeaaUm
import Derived.Test.YtmbpcilgjolaeaaN9i
import Derived.Test.YtmbpcilgjolaeaaU3
namespace Go.Proofs.Ytmbpcilgjolaeaa
open Go.RowKit

theorem digs_get (n : Nat) : ∀ (b r j : Nat) (h : j < b), (digs n b r)[j]'(by rw [digs_len]; exact h) = r / n ^ (b - 1 - j) % n
  | 0, _, _, h => by omega
  | b + 1, r, j, h => by
    simp only [digs]
    by_cases e : j < b
    · rw [List.getElem_append_left (by rw [digs_len]; exact e), digs_get n b (r / n) j e, Nat.div_div_eq_div_mul, ← Nat.pow_succ', show (b - 1 - j).succ = b + 1 - 1 - j by omega]
    · have hj : j = b := by omega
      subst hj
      rw [List.getElem_append_right (by rw [digs_len]; exact Nat.le_refl _)]
      simp [digs_len]
/-- The places behind p are laid. -/
def chF (n i k b r p j : Nat) : Int := if j = 0 then (i : Int) else if j = b + 1 then (k : Int) else if p < j then ((r / n ^ (b - j) % n : Nat) : Int) else 0
theorem chF_done (n i k b r : Nat) : tab (b + 2) (chF n i k b r 0) = ints (i :: (digs n b r ++ [k])) := by
  apply List.ext_getElem
  · simp [tab_length, ints_len, digs_len]
  · intro j h1 h2
    rw [tab_length] at h1
    rw [tab_get h1]
    have hg : (ints (i :: (digs n b r ++ [k])))[j] = (((i :: (digs n b r ++ [k]))[j]'(by rw [ints_len] at h2; exact h2) : Nat) : Int) := by simp only [ints, List.getElem_map]
    rw [hg]
    unfold chF
    by_cases e : j = 0
    · subst e; simp
    · obtain ⟨m, rfl⟩ : ∃ m, j = m + 1 := ⟨j - 1, by omega⟩
      rw [if_neg e, List.getElem_cons_succ]
      by_cases e2 : m + 1 = b + 1
      · have : m = b := by omega
        subst this
        rw [if_pos rfl, List.getElem_append_right (by rw [digs_len]; exact Nat.le_refl _)]
        simp [digs_len]
      · rw [if_neg e2, if_pos (by omega), List.getElem_append_left (by rw [digs_len]; omega), digs_get n b r m (by omega), show b - 1 - m = b - (m + 1) by omega]
theorem chF_put {n i k b r p j : Nat} (hp : 1 ≤ p) (hb : p ≤ b) : chF n i k b r (p - 1) j = if j = p then ((r / n ^ (b - p) % n : Nat) : Int) else chF n i k b r p j := by
  unfold chF
  by_cases e0 : j = 0
  · rw [if_pos e0, if_neg (by omega), if_pos e0]
  · rw [if_neg e0]
    by_cases e1 : j = b + 1
    · rw [if_pos e1, if_neg (by omega), if_neg e0, if_pos e1]
    · rw [if_neg e1]
      by_cases e2 : j = p
      · subst e2; rw [if_pos (by omega), if_pos rfl]
      · rw [if_neg e2, if_neg e0, if_neg e1]
        by_cases e3 : p < j
        · rw [if_pos e3, if_pos (by omega)]
        · rw [if_neg e3, if_neg (by omega)]
theorem own_tab {w : World} {base g m : Nat} {f : Nat → Int} (h : OwnInts w base w.heap.size (some ⟨g, 0, none⟩) (tab m f)) {j : Nat} (hj : j < m) : w.cell? ⟨g, j, none⟩ = some (.int .i64 (f j)) ∧ w.frozen? ⟨g, j, none⟩ = false ∧ base ≤ g := by
  obtain ⟨b, o, e, h0, _, hc, hf⟩ := h.open' (by omega) (by simp [tab_length]; omega)
  simp only [Option.some.injEq, Addr.mk.injEq, and_true] at e
  obtain ⟨e1, e2⟩ := e
  subst e1 e2
  exact ⟨by have := hc j _ (tab_vals_get hj); rwa [Nat.zero_add] at this, hf j, by omega⟩
theorem own_tab_put {w : World} {base g m : Nat} {f f' : Nat → Int} {j : Nat} {v : Int} (h : OwnInts w base w.heap.size (some ⟨g, 0, none⟩) (tab m f)) (hf : ∀ x, x < m → f' x = if x = j then v else f x) : OwnInts (w.setCell ⟨g, j, none⟩ (.int .i64 v)) base (w.setCell ⟨g, j, none⟩ (.int .i64 v)).heap.size (some ⟨g, 0, none⟩) (tab m f') := by
  have h1 := Own.set h j (.int .i64 v)
  rw [← List.map_set, tab_set' hf, Nat.zero_add] at h1
  exact h1.more (by simp [World.setCell])

set_option maxRecDepth 100000 in
set_option maxHeartbeats 2000000 in
theorem chainOver_any (r b n i k : Nat) (w : World) (hb : b ≤ 3) (hr : r ≤ 1000000) (hn1 : 1 ≤ n) (hn5 : n ≤ 5) :
    Calls Try.prog 59 #[.int .i64 (r : Int), .int .i64 (b : Int), .int .i64 (n : Int), .int .i64 (i : Int), .int .i64 (k : Int)] w fun e w' => ∃ A c, e = .returned (.slice A (b + 2) c) ∧ b + 2 ≤ c ∧ OwnInts w' w.heap.size w'.heap.size A (ints (i :: (digs n b r ++ [k]))) ∧ Below w.heap.size w w' := by
  obtain ⟨i3, hi3, hy0, hy1, hy2⟩ := info_parts Try.info3
  have hw2 : IntKind.i64.wrap ((b : Int) + 2) = ((b + 2 : Nat) : Int) := by push_cast; exact IntWalk.i64_in _ (by omega)
  have hw1 : IntKind.i64.wrap ((b : Int) + 1) = ((b + 1 : Nat) : Int) := by push_cast; exact IntWalk.i64_in _ (by omega)
  go_enter Try.func59, Try.ntmps59
  go_wp2_with (at_make; refine wpList_make_full _ rfl (.tmp 14) (.tmp 14) _ rfl w.heap.size 3 i3 (.int .i64 0) 1 Try.underlying27 hi3 hy0 hy1 _ _ _ _ (b + 2) rfl rfl rfl rfl (by rw [hy2]; omega) (by unfold maxLen; omega) (Nat.le_refl _) ?_)
  intro w1 hown hg
  have hb1 : Below w.heap.size w w1 := (Below.refl _ _).grown hg (Nat.le_refl _) (by simp)
  have ho1 : OwnInts w1 w.heap.size w1.heap.size (some ⟨w.heap.size, 0, none⟩) (tab (b + 2) (fun _ => 0)) := by
    rw [← tab_zero]
    have h1 := own_of_rowS (by decide) hown
    rw [toList_madeCells_one] at h1
    simpa [OwnInts] using h1
  have ho2 := own_tab_put (f' := fun x => if x = 0 then (i : Int) else 0) (j := 0) (v := (i : Int)) ho1 (fun x _ => rfl)
  have hb2 := hb1.setCell (p := ⟨w.heap.size, 0, none⟩) (Nat.le_refl _) (.int .i64 (i : Int))
  obtain ⟨c1, c2, _⟩ := own_tab ho1 (j := 0) (by omega)
  obtain ⟨c3, c4, _⟩ := own_tab ho2 (j := b + 1) (by omega)
  have ho3 := own_tab_put (f' := chF n i k b r b) (j := b + 1) (v := (k : Int)) ho2 (fun x hx => by
    unfold chF
    by_cases e : x = b + 1
    · subst e; rw [if_neg (by omega), if_pos rfl, if_pos rfl]
    · rw [if_neg e, if_neg e]
      by_cases e2 : x = 0
      · rw [if_pos e2, if_pos e2]
      · rw [if_neg e2, if_neg e2, if_neg (by omega)])
  have HF := Lib.hid (And.intro ho3 (hb2.setCell (p := ⟨w.heap.size, b + 1, none⟩) (Nat.le_refl _) (.int .i64 (k : Int))))
  have hlt : (b + 1 : Nat) < b + 2 := by omega
  have hltI : ((b + 1 : Nat) : Int) < ((b + 2 : Nat) : Int) := by omega
  have hp0 : (0 : Int) < ((b + 2 : Nat) : Int) := by omega
  have hp1 : (0 : Int) ≤ ((b + 1 : Nat) : Int) := by omega
  clear hown hg hb1 hb2 ho1 ho2 ho3
  go_wp2_with fail
  go_loopw [0, 12] (fun x v wr => ∃ p : Nat, p ≤ b ∧ x = .int .i64 ((r / n ^ (b - p) : Nat) : Int) ∧ v = .int .i64 p ∧ OwnInts wr w.heap.size wr.heap.size (some ⟨w.heap.size, 0, none⟩) (tab (b + 2) (chF n i k b r p)) ∧ Below w.heap.size w wr) (fun _ v _ => (intOf v).toNat)
  case atStart => exact ⟨b, Nat.le_refl _, by rw [Nat.sub_self, Nat.pow_zero, Nat.div_one], rfl, HF.out.1, HF.out.2⟩
  case round =>
    obtain ⟨p, hp, rfl, rfl, ho, hbr⟩ := hrel
    clear HF c1 c2 c3 c4
    have HO := Lib.hid ho
    have HBR := Lib.hid hbr
    clear hbr
    by_cases hp1 : 1 ≤ p
    · obtain ⟨x, hx⟩ : ∃ x, r / n ^ (b - p) = x := ⟨_, rfl⟩
      have hxr : x ≤ r := by rw [← hx]; exact Nat.div_le_self _ _
      have hnx : r / n ^ (b - (p - 1)) = x / n := by rw [← hx, Nat.div_div_eq_div_mul, ← Nat.pow_succ, show (b - p).succ = b - (p - 1) by omega]
      obtain ⟨d1, d2, _⟩ := own_tab ho (j := p) (by omega)
      have hset := own_tab_put (f' := chF n i k b r (p - 1)) (j := p) (v := ((x % n : Nat) : Int)) ho (fun y _ => by rw [chF_put hp1 hp, hx])
      have HS := Lib.hid (And.intro hset (HBR.out.setCell (p := ⟨w.heap.size, p, none⟩) (Nat.le_refl _) (.int .i64 ((x % n : Nat) : Int))))
      have HNX := Lib.hid hnx
      obtain ⟨y, hy⟩ : ∃ y, chF n i k b r p p = y := ⟨_, rfl⟩
      rw [hy] at d1
      have hn0 : ¬ (n : Int) = 0 := by omega
      have hn0' : ((n : Int) == 0) = false := beq_eq_false_iff_ne.2 hn0
      have hp0' : (0 : Int) ≤ p := by omega
      have hplt : (p : Int) < ((b + 2 : Nat) : Int) := by omega
      have hd : decide ((1 : Int) ≤ (p : Int)) = true := decide_eq_true (by omega)
      rw [hx]
      have hq0 : x / n ≤ x := Nat.div_le_self x n
      have hm0 : x % n < n := Nat.mod_lt _ (by omega)
      obtain ⟨q, hq⟩ : ∃ q, x / n = q := ⟨_, rfl⟩
      obtain ⟨m, hm⟩ : ∃ m, x % n = m := ⟨_, rfl⟩
      have hxm : Int.tmod (x : Int) (n : Int) = (m : Int) := by rw [← hm]; exact (Int.ofNat_tmod x n).symm
      have hxd : Int.tdiv (x : Int) (n : Int) = (q : Int) := by rw [← hq]; exact (Int.ofNat_tdiv x n).symm
      rw [hm] at HS hm0
      rw [hq] at HNX hq0
      have hxw1 : IntKind.i64.wrap (m : Int) = (m : Int) := IntWalk.i64_in _ (by omega)
      have hxw2 : IntKind.i64.wrap (q : Int) = (q : Int) := IntWalk.i64_in _ (by omega)
      clear hq hm
      clear hset hx hnx hy ho
      go_wp2_with fail
      go_roundw
      case rel => exact ⟨p - 1, by omega, by rw [HNX.out], by go_num, HS.out.1, HS.out.2⟩
      case measure => simp [intOf]; omega
    · have hp0 : p = 0 := by omega
      subst hp0
      rw [chF_done] at ho
      have HO2 := Lib.hid ho
      clear ho
      go_wp2_with fail
      go_ret
      exact ⟨_, _, rfl, Nat.le_refl _, HO2.out, HBR.out⟩
end Go.Proofs.Ytmbpcilgjolaeaa
