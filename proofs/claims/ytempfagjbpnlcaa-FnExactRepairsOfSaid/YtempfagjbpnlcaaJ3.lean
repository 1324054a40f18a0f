/- slices.Compare, cmp.Or, impl.bestBelow. No condition. -/
import Derived.Test.YtempfagjbpnlcaaI5
import Derived.Test.YtempfagjbpnlcaaI3
import Derived.Test.YtempfagjbpnlcaaShelf
import Derived.Test.YtempfagjbpnlcaaG3
import Derived.Test.YtempfagjbpnlcaaN9i
namespace Go.Proofs.Ytempfagjbpnlcaa
open Go.RowKit

theorem cmpL_take {a b : List Int} {k : Nat} (h : a.take k = b.take k) (ha : k ≤ a.length) (hb : k ≤ b.length) : cmpL a b = cmpL (a.drop k) (b.drop k) := by
  induction k generalizing a b with
  | zero => simp
  | succ k ih =>
    cases a with
    | nil => simp at ha
    | cons x a => cases b with
      | nil => simp at hb
      | cons y b =>
        simp only [List.take_succ_cons, List.cons.injEq] at h
        obtain ⟨rfl, h⟩ := h
        simp only [cmpL, List.drop_succ_cons]
        rw [if_neg (by omega), if_neg (by omega)]
        exact ih h (by simpa using ha) (by simpa using hb)
theorem cmpL_first {a b : List Int} {k : Nat} (h : a.take k = b.take k) (ha : k < a.length) (hb : k < b.length) (hne : Lib.compareInt a[k] b[k] ≠ 0) : cmpL a b = Lib.compareInt a[k] b[k] := by
  rw [cmpL_take h (by omega) (by omega), ← List.getElem_cons_drop ha, ← List.getElem_cons_drop hb]
  simp only [cmpL]
  unfold Lib.compareInt at hne ⊢
  split
  · rfl
  · split
    · rfl
    · rename_i h1 h2
      rw [if_neg h1, if_neg h2] at hne
      exact absurd rfl hne
theorem compareInt_eq {x y : Int} (h : Lib.compareInt x y = 0) : x = y := by
  unfold Lib.compareInt at h
  split at h
  · omega
  · split at h
    · omega
    · omega
theorem cmpL_longer {a b : List Int} (h : a.take b.length = b) (hl : b.length < a.length) : cmpL a b = 1 := by
  have h2 : a.take b.length = b.take b.length := by rw [List.take_length]; exact h
  rw [cmpL_take h2 (by omega) (Nat.le_refl _), List.drop_length, ← List.getElem_cons_drop hl]; rfl
theorem cmpL_shorter {a b : List Int} (h : a = b.take a.length) (hl : a.length < b.length) : cmpL a b = -1 := by
  have h2 : a.take a.length = b.take a.length := by rw [List.take_length]; exact h
  rw [cmpL_take h2 (Nat.le_refl _) (by omega), List.drop_length, ← List.getElem_cons_drop hl]; rfl

set_option maxRecDepth 100000 in
set_option maxHeartbeats 2000000 in
theorem compareL_any (A B : Option Addr) (c d : Nat) (xs ys : List Int) (w : World) (hx : Ints w w.heap.size A xs) (hy : Ints w w.heap.size B ys) (hl : xs.length ≤ 1000000) (hl2 : ys.length ≤ 1000000) :
    Calls Try.prog 40 #[.slice A xs.length c, .slice B ys.length d] w fun e w' => e = .returned (.int .i64 (cmpL xs ys)) ∧ w = w' := by
  obtain ⟨V, hV⟩ : ∃ V, cmpL xs ys = V := ⟨_, rfl⟩
  rw [hV]
  have HV := Lib.hid hV
  clear hV
  go_enter Try.func40, Try.ntmps40
  go_wp2
  go_loop [11] (fun i => ∃ k : Nat, k ≤ xs.length ∧ k ≤ ys.length ∧ i = .int .i64 k ∧ xs.take k = ys.take k) (fun i => xs.length - (intOf i).toNat)
  case atStart => exact ⟨0, by omega, by omega, rfl, by simp⟩
  case round =>
    obtain ⟨k, hk, hk2, rfl, hall⟩ := hrel
    have HA := Lib.hid hall
    clear hall
    by_cases hlt : k < xs.length
    · obtain ⟨b, o, rfl, hb, hc⟩ := hx.open (by simp; omega)
      have hcell := ints_at hc hlt
      by_cases hlt2 : k < ys.length
      · obtain ⟨b', o', rfl, hb', hc'⟩ := hy.open (by simp; omega)
        have hcell' := ints_at hc' hlt2
        have HFI := Lib.hid (fun hne => cmpL_first HA.out hlt hlt2 hne)
        have HEQ := Lib.hid (fun (h : Lib.compareInt xs[k] ys[k] = 0) => show xs.take (k + 1) = ys.take (k + 1) by rw [List.take_succ_eq_append_getElem hlt, List.take_succ_eq_append_getElem hlt2, HA.out, compareInt_eq h])
        have hcmp := Try.cmp_Compare_int xs[k] ys[k] w
        obtain ⟨x, hxe⟩ : ∃ x, xs[k] = x := ⟨_, rfl⟩
        obtain ⟨y, hye⟩ : ∃ y, ys[k] = y := ⟨_, rfl⟩
        rw [hxe] at hcell
        rw [hye] at hcell'
        rw [hxe, hye] at hcmp
        have HXY := Lib.hid (And.intro hxe hye)
        obtain ⟨q, hq⟩ : ∃ q, Lib.compareInt x y = q := ⟨_, rfl⟩
        rw [hq] at hcmp
        have HCM := Lib.hid hcmp
        have HQ := Lib.hid hq
        clear hc hc' hxe hye hcmp hq
        by_cases hq0 : q = 0
        · have ht : (q != 0) = false := by simp [hq0]
          have HE := Lib.hid (HEQ.out (by rw [HXY.out.1, HXY.out.2, HQ.out, hq0]))
          clear hq0
          go_wp2_with (go_at_call 56; refine HCM.out.mono ?_; rintro e w' ⟨rfl, rfl⟩)
          go_round
          case rel => exact ⟨k + 1, by omega, by omega, by go_num, HE.out⟩
          case measure => simp [intOf]; omega
        · have ht : (q != 0) = true := by simp [hq0]
          have HF := Lib.hid (show V = q by rw [← HV.out, HFI.out (by rw [HXY.out.1, HXY.out.2, HQ.out]; exact hq0), HXY.out.1, HXY.out.2, HQ.out])
          clear hq0
          go_wp2_with (go_at_call 56; refine HCM.out.mono ?_; rintro e w' ⟨rfl, rfl⟩)
          go_ret
          exact ⟨ret_int HF.out.symm, rfl⟩
      · have hky : k = ys.length := by omega
        have HF := Lib.hid (show V = 1 by rw [← HV.out]; exact cmpL_longer (by rw [← hky, HA.out, hky, List.take_length]) (by omega))
        have hge : (ys.length : Int) ≤ (k : Int) := by omega
        clear hc hky hlt2
        go_wp2
        go_ret
        exact ⟨ret_int HF.out.symm, rfl⟩
    · have hk' : k = xs.length := by omega
      subst hk'
      have hall := HA.out
      rw [List.take_length] at hall
      by_cases h3 : xs.length < ys.length
      · have hd : decide (xs.length < ys.length) = true := decide_eq_true h3
        have HF := Lib.hid (show V = -1 by rw [← HV.out]; exact cmpL_shorter hall h3)
        clear hall h3
        go_wp2
        go_ret
        exact ⟨ret_int HF.out.symm, rfl⟩
      · have hd : decide (xs.length < ys.length) = false := decide_eq_false h3
        have HF := Lib.hid (show V = 0 by rw [← HV.out, hall, List.take_of_length_le (by omega), cmpL_refl])
        clear hall h3
        go_wp2
        go_ret
        exact ⟨ret_int HF.out.symm, rfl⟩

theorem better_or (a b : List Int) : decide ((if Lib.compareInt (a.length : Int) (b.length : Int) = 0 then cmpL b a else Lib.compareInt (a.length : Int) (b.length : Int)) < 0) = better a b := by
  unfold better Lib.compareInt
  by_cases h1 : a.length < b.length
  · rw [decide_eq_true h1, Bool.true_or]
    rw [if_pos (show (a.length : Int) < (b.length : Int) by omega)]
    rfl
  · rw [decide_eq_false h1, Bool.false_or, if_neg (show ¬ (a.length : Int) < (b.length : Int) by omega)]
    by_cases h2 : a.length = b.length
    · rw [decide_eq_true h2, Bool.true_and, if_neg (show ¬ (b.length : Int) < (a.length : Int) by omega)]
      rfl
    · rw [decide_eq_false h2, Bool.false_and, if_pos (show (b.length : Int) < (a.length : Int) by omega)]
      rfl
theorem bestTo_some (rows : List (List Int)) (limit : Int) (k : Nat) : bestTo rows limit k = [] ∨ ∃ j, j < k ∧ bestTo rows limit k = rows.getD j [] := by
  induction k with
  | zero => exact .inl rfl
  | succ k ih =>
    simp only [bestTo]
    split
    · exact .inr ⟨k, by omega, rfl⟩
    · rcases ih with h | ⟨j, h1, h2⟩
      · exact .inl h
      · exact .inr ⟨j, by omega, h2⟩
theorem bestTo_len {rows : List (List Int)} {limit : Int} {k M : Nat} (h : ∀ r ∈ rows, r.length ≤ M) : (bestTo rows limit k).length ≤ M := by
  rcases bestTo_some rows limit k with e | ⟨j, _, e⟩
  · rw [e]; simp
  · rw [e]
    by_cases hj : j < rows.length
    · rw [List.getD_eq_getElem?_getD, List.getElem?_eq_getElem hj]; exact h _ (List.getElem_mem hj)
    · rw [List.getD_eq_getElem?_getD, List.getElem?_eq_none (by omega)]; simp

def BestPost (w : World) (base B : Nat) (r : List Int) (e : Ending) (w' : World) : Prop := ∃ R c, e = .returned (.slice R r.length c) ∧ r.length ≤ c ∧ Own w' base B R (r.map (Value.int .i64)) ∧ (r.length = 0 → R = none ∧ c = 0) ∧ Below w.heap.size w w'
end Go.Proofs.Ytempfagjbpnlcaa
