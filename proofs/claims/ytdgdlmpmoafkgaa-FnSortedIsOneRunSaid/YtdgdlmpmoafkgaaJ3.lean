/- slices.Compare, cmp.Or, impl.bestBelow. No condition. -/
import Derived.Test.YtdgdlmpmoafkgaaI5
import Derived.Test.YtdgdlmpmoafkgaaI3
import Derived.Test.YtdgdlmpmoafkgaaShelf
import Derived.Test.YtdgdlmpmoafkgaaG3
import Derived.Test.YtdgdlmpmoafkgaaN9i
namespace Go.Proofs.Ytdgdlmpmoafkgaa
open Go.RowKit

theorem cmpL_take {a b : List Int} {k : Nat} (h : a.take k = b.take k) (ha : k ≤ a.length) (hb : k ≤ b.length) : cmpL a b = cmpL (a.drop k) (b.drop k) := by
  induction k generalizing a b with
  | zero => simp
  | succ k ih =>
    cases a with
    | nil => simp at ha
    | cons x a => cases b with
      | nil => simp at hb
      | cons y b =>
        simp only [List.take_succ_cons, List.cons.injEq] at h
        obtain ⟨rfl, h⟩ := h
        simp only [cmpL, List.drop_succ_cons]
        rw [if_neg (by omega), if_neg (by omega)]
        exact ih h (by simpa using ha) (by simpa using hb)
theorem cmpL_first {a b : List Int} {k : Nat} (h : a.take k = b.take k) (ha : k < a.length) (hb : k < b.length) (hne : Lib.compareInt a[k] b[k] ≠ 0) : cmpL a b = Lib.compareInt a[k] b[k] := by
  rw [cmpL_take h (by omega) (by omega), ← List.getElem_cons_drop ha, ← List.getElem_cons_drop hb]
  simp only [cmpL]
  unfold Lib.compareInt at hne ⊢
  split
  · rfl
  · split
    · rfl
    · rename_i h1 h2
      rw [if_neg h1, if_neg h2] at hne
      exact absurd rfl hne
theorem compareInt_eq {x y : Int} (h : Lib.compareInt x y = 0) : x = y := by
  unfold Lib.compareInt at h
  split at h
  · omega
  · split at h
    · omega
    · omega
theorem cmpL_longer {a b : List Int} (h : a.take b.length = b) (hl : b.length < a.length) : cmpL a b = 1 := by
  have h2 : a.take b.length = b.take b.length := by rw [List.take_length]; exact h
  rw [cmpL_take h2 (by omega) (Nat.le_refl _), List.drop_length, ← List.getElem_cons_drop hl]; rfl
theorem cmpL_shorter {a b : List Int} (h : a = b.take a.length) (hl : a.length < b.length) : cmpL a b = -1 := by
  have h2 : a.take a.length = b.take a.length := by rw [List.take_length]; exact h
  rw [cmpL_take h2 (Nat.le_refl _) (by omega), List.drop_length, ← List.getElem_cons_drop hl]; rfl

set_option maxRecDepth 100000 in
set_option maxHeartbeats 2000000 in
theorem compareL_any (A B : Option Addr) (c d : Nat) (xs ys : List Int) (w : World) (hx : Ints w w.heap.size A xs) (hy : Ints w w.heap.size B ys) (hl : xs.length ≤ 1000000) (hl2 : ys.length ≤ 1000000) :
    Calls Try.prog 65 #[.slice A xs.length c, .slice B ys.length d] w fun e w' => e = .returned (.int .i64 (cmpL xs ys)) ∧ w = w' := by
  obtain ⟨V, hV⟩ : ∃ V, cmpL xs ys = V := ⟨_, rfl⟩
  rw [hV]
  have HV := Lib.hid hV
  clear hV
  go_enter Try.func65, Try.ntmps65
  go_wp2
  go_loop [11] (fun i => ∃ k : Nat, k ≤ xs.length ∧ k ≤ ys.length ∧ i = .int .i64 k ∧ xs.take k = ys.take k) (fun i => xs.length - (intOf i).toNat)
  case atStart => exact ⟨0, by omega, by omega, rfl, by simp⟩
  case round =>
    obtain ⟨k, hk, hk2, rfl, hall⟩ := hrel
    have HA := Lib.hid hall
    clear hall
    by_cases hlt : k < xs.length
    · obtain ⟨b, o, rfl, hb, hc⟩ := hx.open (by simp; omega)
      have hcell := ints_at hc hlt
      by_cases hlt2 : k < ys.length
      · obtain ⟨b', o', rfl, hb', hc'⟩ := hy.open (by simp; omega)
        have hcell' := ints_at hc' hlt2
        have HFI := Lib.hid (fun hne => cmpL_first HA.out hlt hlt2 hne)
        have HEQ := Lib.hid (fun (h : Lib.compareInt xs[k] ys[k] = 0) => show xs.take (k + 1) = ys.take (k + 1) by rw [List.take_succ_eq_append_getElem hlt, List.take_succ_eq_append_getElem hlt2, HA.out, compareInt_eq h])
        have hcmp := Try.cmp_Compare_int xs[k] ys[k] w
        obtain ⟨x, hxe⟩ : ∃ x, xs[k] = x := ⟨_, rfl⟩
        obtain ⟨y, hye⟩ : ∃ y, ys[k] = y := ⟨_, rfl⟩
        rw [hxe] at hcell
        rw [hye] at hcell'
        rw [hxe, hye] at hcmp
        have HXY := Lib.hid (And.intro hxe hye)
        obtain ⟨q, hq⟩ : ∃ q, Lib.compareInt x y = q := ⟨_, rfl⟩
        rw [hq] at hcmp
        have HCM := Lib.hid hcmp
        have HQ := Lib.hid hq
        clear hc hc' hxe hye hcmp hq
        by_cases hq0 : q = 0
        · have ht : (q != 0) = false := by simp [hq0]
          have HE := Lib.hid (HEQ.out (by rw [HXY.out.1, HXY.out.2, HQ.out, hq0]))
          clear hq0
          go_wp2_with (go_at_call 64; refine HCM.out.mono ?_; rintro e w' ⟨rfl, rfl⟩)
          go_round
          case rel => exact ⟨k + 1, by omega, by omega, by go_num, HE.out⟩
          case measure => simp [intOf]; omega
        · have ht : (q != 0) = true := by simp [hq0]
          have HF := Lib.hid (show V = q by rw [← HV.out, HFI.out (by rw [HXY.out.1, HXY.out.2, HQ.out]; exact hq0), HXY.out.1, HXY.out.2, HQ.out])
          clear hq0
          go_wp2_with (go_at_call 64; refine HCM.out.mono ?_; rintro e w' ⟨rfl, rfl⟩)
          go_ret
          exact ⟨ret_int HF.out.symm, rfl⟩
      · have hky : k = ys.length := by omega
        have HF := Lib.hid (show V = 1 by rw [← HV.out]; exact cmpL_longer (by rw [← hky, HA.out, hky, List.take_length]) (by omega))
        have hge : (ys.length : Int) ≤ (k : Int) := by omega
        clear hc hky hlt2
        go_wp2
        go_ret
        exact ⟨ret_int HF.out.symm, rfl⟩
    · have hk' : k = xs.length := by omega
      subst hk'
      have hall := HA.out
      rw [List.take_length] at hall
      by_cases h3 : xs.length < ys.length
      · have hd : decide (xs.length < ys.length) = true := decide_eq_true h3
        have HF := Lib.hid (show V = -1 by rw [← HV.out]; exact cmpL_shorter hall h3)
        clear hall h3
        go_wp2
        go_ret
        exact ⟨ret_int HF.out.symm, rfl⟩
      · have hd : decide (xs.length < ys.length) = false := decide_eq_false h3
        have HF := Lib.hid (show V = 0 by rw [← HV.out, hall, List.take_of_length_le (by omega), cmpL_refl])
        clear hall h3
        go_wp2
        go_ret
        exact ⟨ret_int HF.out.symm, rfl⟩

set_option maxRecDepth 100000 in
theorem or2_any (g : Nat) (a b : Int) (w : World) (h0 : w.cell? ⟨g, 0, none⟩ = some (.int .i64 a)) (h1 : w.cell? ⟨g, 1, none⟩ = some (.int .i64 b)) :
    Calls Try.prog 63 #[.slice (some ⟨g, 0, none⟩) 2 2] w fun e w' => e = .returned (.int .i64 (if a = 0 then b else a)) ∧ w = w' := by
  by_cases ha : a = 0
  · have hta : (a != 0) = false := by simp [ha]
    rw [if_pos ha]
    by_cases hb : b = 0
    · have htb : (b != 0) = false := by simp [hb]
      have HB := Lib.hid hb
      clear ha hb
      go_enter Try.func63, Try.ntmps63
      go_wp2
      go_loop [8] (fun i => ∃ k : Nat, k ≤ 2 ∧ i = .int .i64 k) (fun i => 2 - (intOf i).toNat)
      case atStart => exact ⟨0, by omega, rfl⟩
      case round =>
        obtain ⟨k, hk, rfl⟩ := hrel
        by_cases hk0 : k = 0
        · subst hk0
          go_wp2
          go_round
          case rel => exact ⟨1, by omega, by go_num⟩
          case measure => simp [intOf]
        · by_cases hk1 : k = 1
          · subst hk1
            go_wp2
            go_round
            case rel => exact ⟨2, by omega, by go_num⟩
            case measure => simp [intOf]
          · have hk2 : k = 2 := by omega
            subst hk2
            go_wp2
            go_ret
            exact ⟨ret_int HB.out.symm, rfl⟩
    · have htb : (b != 0) = true := by simp [hb]
      clear ha hb
      go_enter Try.func63, Try.ntmps63
      go_wp2
      go_loop [8] (fun i => ∃ k : Nat, k ≤ 1 ∧ i = .int .i64 k) (fun i => 2 - (intOf i).toNat)
      case atStart => exact ⟨0, by omega, rfl⟩
      case round =>
        obtain ⟨k, hk, rfl⟩ := hrel
        by_cases hk0 : k = 0
        · subst hk0
          go_wp2
          go_round
          case rel => exact ⟨1, by omega, by go_num⟩
          case measure => simp [intOf]
        · have hk1 : k = 1 := by omega
          subst hk1
          go_wp2
          go_ret
          exact ⟨rfl, rfl⟩
  · have hta : (a != 0) = true := by simp [ha]
    rw [if_neg ha]
    clear ha
    go_enter Try.func63, Try.ntmps63
    go_wp2
    go_loop [8] (fun i => i = .int .i64 0) (fun i => 2 - (intOf i).toNat)
    case atStart => rfl
    case round =>
      subst hrel
      go_wp2
      go_ret
      exact ⟨rfl, rfl⟩

theorem better_or (a b : List Int) : decide ((if Lib.compareInt (a.length : Int) (b.length : Int) = 0 then cmpL b a else Lib.compareInt (a.length : Int) (b.length : Int)) < 0) = better a b := by
  unfold better Lib.compareInt
  by_cases h1 : a.length < b.length
  · rw [decide_eq_true h1, Bool.true_or]
    rw [if_pos (show (a.length : Int) < (b.length : Int) by omega)]
    rfl
  · rw [decide_eq_false h1, Bool.false_or, if_neg (show ¬ (a.length : Int) < (b.length : Int) by omega)]
    by_cases h2 : a.length = b.length
    · rw [decide_eq_true h2, Bool.true_and, if_neg (show ¬ (b.length : Int) < (a.length : Int) by omega)]
      rfl
    · rw [decide_eq_false h2, Bool.false_and, if_pos (show (b.length : Int) < (a.length : Int) by omega)]
      rfl
theorem bestTo_some (rows : List (List Int)) (limit : Int) (k : Nat) : bestTo rows limit k = [] ∨ ∃ j, j < k ∧ bestTo rows limit k = rows.getD j [] := by
  induction k with
  | zero => exact .inl rfl
  | succ k ih =>
    simp only [bestTo]
    split
    · exact .inr ⟨k, by omega, rfl⟩
    · rcases ih with h | ⟨j, h1, h2⟩
      · exact .inl h
      · exact .inr ⟨j, by omega, h2⟩
theorem bestTo_len {rows : List (List Int)} {limit : Int} {k M : Nat} (h : ∀ r ∈ rows, r.length ≤ M) : (bestTo rows limit k).length ≤ M := by
  rcases bestTo_some rows limit k with e | ⟨j, _, e⟩
  · rw [e]; simp
  · rw [e]
    by_cases hj : j < rows.length
    · rw [List.getD_eq_getElem?_getD, List.getElem?_eq_getElem hj]; exact h _ (List.getElem_mem hj)
    · rw [List.getD_eq_getElem?_getD, List.getElem?_eq_none (by omega)]; simp

def BestPost (w : World) (base B : Nat) (r : List Int) (e : Ending) (w' : World) : Prop := ∃ R c, e = .returned (.slice R r.length c) ∧ r.length ≤ c ∧ Own w' base B R (r.map (Value.int .i64)) ∧ (r.length = 0 → R = none ∧ c = 0) ∧ Below w.heap.size w w'

set_option maxRecDepth 100000 in
set_option maxHeartbeats 4000000 in
theorem bestBelow_any (base B : Nat) (A : Option Addr) (c0 : Nat) (rs : List (List Int)) (limit : Int) (w : World) (hr : Grid w base B A rs) (hB : B ≤ w.heap.size) (hl : rs.length ≤ 1000) (hne : ∀ r ∈ rs, 0 < r.length ∧ r.length ≤ 1000) :
    Calls Try.prog 62 #[.slice A rs.length c0, .int .i64 limit] w (BestPost w base B (bestTo rs limit rs.length)) := by
  have HNE := Lib.hid hne
  have HR := Lib.hid hr
  clear hne
  go_enter Try.func62, Try.ntmps62
  go_wp2
  go_loopw [5, 10] (fun v i wr => ∃ (k m : Nat) (R : Option Addr) (c : Nat), k ≤ rs.length ∧ i = .int .i64 k ∧ v = .slice R m c ∧ m = (bestTo rs limit k).length ∧ m ≤ c ∧ Own wr base B R ((bestTo rs limit k).map (Value.int .i64)) ∧ (m = 0 → R = none ∧ c = 0) ∧ Below w.heap.size w wr) (fun _ i _ => rs.length - (intOf i).toNat)
  case atStart => exact ⟨0, 0, none, 0, by omega, rfl, rfl, rfl, Nat.le_refl _, .inl rfl, fun _ => ⟨rfl, rfl⟩, Below.refl _ _⟩
  case round =>
    obtain ⟨k, m, R0, c, hk, rfl, rfl, hm, hmc, hob, hz, hbr⟩ := hrel
    have HBR := Lib.hid hbr
    have HOB := Lib.hid hob
    have HM := Lib.hid hm
    have HZ := Lib.hid hz
    have hszr := hbr.size
    have hm1 : m ≤ 1000 := by rw [hm]; exact bestTo_len (fun r h => (HNE.out r h).2)
    by_cases hlt : k < rs.length
    · obtain ⟨b, o, R, cR, rfl, hb, hcell, hcR, hrow⟩ := (HR.out.below (hbr.mono hB)).open hlt
      have hnk := HNE.out _ (List.getElem_mem hlt)
      have HG := Lib.hid (show rs.getD k [] = rs[k] by rw [List.getD_eq_getElem?_getD, List.getElem?_eq_getElem hlt]; rfl)
      obtain ⟨r, hre⟩ : ∃ r, rs[k] = r := ⟨_, rfl⟩
      rw [hre] at hcell hcR hrow hnk HG
      obtain ⟨n, hn⟩ : ∃ n, r.length = n := ⟨_, rfl⟩
      obtain ⟨d, hd⟩ : ∃ d, n = d + 1 := ⟨n - 1, by omega⟩
      obtain ⟨bR, oR, hRe, hbR, hcc⟩ := hrow.open (by simp; omega)
      have hlast := ints_atD hcc (show d < r.length by omega)
      have HSTEP := Lib.hid (show bestTo rs limit (k + 1) = if (decide (r.getD d 0 < limit) && better (bestTo rs limit k) r) = true then r else bestTo rs limit k by
        simp only [bestTo]
        rw [HG.out, hn, show n - 1 = d by omega])
      have hcmp := Try.cmp_Compare_int (m : Int) (n : Int) wr
      have hcl := compareL_any R R0 cR c r (bestTo rs limit k) wr (hrow.less (Nat.zero_le _) |>.more (by omega)) (hob.less (Nat.zero_le _) |>.more (by omega)) (by omega) (by omega)
      rw [hn, ← hm] at hcl
      rw [hn] at hcell hcR
      have hbo := better_or (bestTo rs limit k) r
      rw [← hm, hn] at hbo
      obtain ⟨q1, hq1⟩ : ∃ q, Lib.compareInt (m : Int) (n : Int) = q := ⟨_, rfl⟩
      obtain ⟨q2, hq2⟩ : ∃ q, cmpL r (bestTo rs limit k) = q := ⟨_, rfl⟩
      rw [hq1] at hcmp hbo
      rw [hq2] at hcl hbo
      have hor := or2_any wr.heap.size q1 q2 (wr.alloc (.cells #[.int .i64 q1, .int .i64 q2] 3)) (by rw [World.cell?_alloc_at _ _ _ _ rfl]; rfl) (by rw [World.cell?_alloc_at _ _ _ _ rfl]; rfl)
      obtain ⟨z, hzz⟩ : ∃ z, (if q1 = 0 then q2 else q1) = z := ⟨_, rfl⟩
      rw [hzz] at hor hbo
      obtain ⟨t, ht⟩ : ∃ t, r.getD d 0 = t := ⟨_, rfl⟩
      rw [ht] at hlast HSTEP
      rw [hRe] at hcell
      have HROW := Lib.hid (show Own wr base B (some ⟨bR, oR, none⟩) (r.map (Value.int .i64)) by rw [← hRe]; exact hrow)
      rw [hRe] at hcl
      have HCM := Lib.hid hcmp
      have HCL := Lib.hid hcl
      have HOR := Lib.hid hor
      have HBO := Lib.hid hbo
      have HN := Lib.hid (And.intro hn hd)
      have hba : Below w.heap.size w (wr.alloc (.cells #[.int .i64 q1, .int .i64 q2] 3)) := hbr.alloc (by omega) _
      have HBA := Lib.hid (And.intro hba (show ∀ (X : Option Addr) (ys : List Value), Own wr base B X ys → Own (wr.alloc (.cells #[.int .i64 q1, .int .i64 q2] 3)) base B X ys from fun X ys h => h.below ((Below.refl _ _).alloc (by omega) _)))
      have hidx : IntKind.i64.wrap ((n : Int) - 1) = (d : Int) := by rw [show (n : Int) - 1 = (d : Int) by omega]; exact IntWalk.i64_in _ (by omega)
      have hidx2 : (n : Int) - 1 = (d : Int) := by omega
      have hdI : (d : Int) < (n : Int) := by omega
      have hd0 : (0 : Int) ≤ (d : Int) := by omega
      have hkI : (k : Int) < rs.length := by omega
      have hk0 : (0 : Int) ≤ (k : Int) := by omega
      have hn1 : n ≤ 1000 := by omega
      have hncR : n ≤ cR := hcR
      clear hre hn hd hRe hcc hcmp hcl hbo hq1 hq2 hor hzz ht hm hob hbr hba hrow hnk hz hcR
      by_cases hlim : t < limit
      · have hdl : decide (t < limit) = true := decide_eq_true hlim
        by_cases hbt : z < 0
        · have hdz : decide (z < 0) = true := decide_eq_true hbt
          have HF := Lib.hid (show bestTo rs limit (k + 1) = r by rw [HSTEP.out, hdl, ← HBO.out, hdz]; rfl)
          clear hlim hbt
          go_wp2_with (first | (go_at_call 64; refine HCM.out.mono ?_; rintro e w' ⟨rfl, rfl⟩) | (go_at_call 65; refine HCL.out.mono ?_; rintro e w' ⟨rfl, rfl⟩) | (go_at_call 63; refine HOR.out.mono ?_; rintro e w' ⟨rfl, rfl⟩))
          go_roundw
          case rel => exact ⟨k + 1, n, _, cR, by omega, by go_num, rfl, by rw [HF.out, HN.out.1], hncR, by rw [HF.out]; exact HBA.out.2 _ _ HROW.out, fun h => by have := HN.out.2; omega, HBA.out.1⟩
          case measure => simp [intOf]; omega
        · have hdz : decide (z < 0) = false := decide_eq_false hbt
          have HF := Lib.hid (show bestTo rs limit (k + 1) = bestTo rs limit k by rw [HSTEP.out, hdl, ← HBO.out, hdz]; rfl)
          clear hlim hbt
          go_wp2_with (first | (go_at_call 64; refine HCM.out.mono ?_; rintro e w' ⟨rfl, rfl⟩) | (go_at_call 65; refine HCL.out.mono ?_; rintro e w' ⟨rfl, rfl⟩) | (go_at_call 63; refine HOR.out.mono ?_; rintro e w' ⟨rfl, rfl⟩))
          go_roundw
          case rel => exact ⟨k + 1, m, R0, c, by omega, by go_num, rfl, by rw [HF.out]; exact HM.out, hmc, by rw [HF.out]; exact HBA.out.2 _ _ HOB.out, HZ.out, HBA.out.1⟩
          case measure => simp [intOf]; omega
      · have hdl : decide (t < limit) = false := decide_eq_false hlim
        have HF := Lib.hid (show bestTo rs limit (k + 1) = bestTo rs limit k by rw [HSTEP.out, hdl]; rfl)
        clear hlim
        go_wp2_with fail
        go_roundw
        case rel => exact ⟨k + 1, m, R0, c, by omega, by go_num, rfl, by rw [HF.out]; exact HM.out, hmc, by rw [HF.out]; exact HOB.out, HZ.out, HBR.out⟩
        case measure => simp [intOf]; omega
    · have hk' : k = rs.length := by omega
      subst hk'
      have HF := Lib.hid (show BestPost w base B (bestTo rs limit rs.length) (.returned (.slice R0 m c)) wr from ⟨R0, c, by rw [← hm], by omega, hob, by rw [← hm]; exact hz, hbr⟩)
      clear hm hob hbr hz
      go_wp2
      go_ret
      exact HF.out
end Go.Proofs.Ytdgdlmpmoafkgaa
