/- OrderBy: the sort by insertion. No condition. -/
import Derived.Test.YtlgeoilnjgojnaaO2
import Derived.Test.YtlgeoilnjgojnaaMark
namespace Go.Proofs.Ytlgeoilnjgojnaa
open Go.RowKit

theorem cmpH_lt {rs : List (List Int)} (hv : housesB rs = true) {i k : Nat} (hi : i < rs.length) (hk : k < rs.length) (loop : Bool) : decide (cmpH (hAt rs i) (hAt rs k) loop < 0) = ltH rs loop i k := by
  obtain ⟨p, s, he, hb⟩ := house_row hv hi
  obtain ⟨q, t, he', hb'⟩ := house_row hv hk
  have h1 := hAt_of (z := (i : Int)) rfl hi he
  have h2 := hAt_of (z := (k : Int)) rfl hk he'
  have key : ∀ a b : Int, decide (Lib.compareInt a b < 0) = decide (a < b) := fun a b => by
    by_cases h : a < b
    · simp [Lib.compareInt, h]
    · by_cases h2 : a > b
      · simp [Lib.compareInt, h, h2]
      · simp [Lib.compareInt, h, h2]
  rw [h1, h2]
  simp only [ltH, h1, h2, earl, cmpH]
  cases loop with
  | false => simp [key]
  | true =>
    by_cases hst : s = t
    · subst hst
      by_cases h0 : s = 0
      · have h1' : ¬ s = 1 := by omega
        simp [h0, key]
      · have h1' : s = 1 := by omega
        simp [h1', key]
    · simp [hst, key]

theorem ups_cons (i n : Nat) (h : i < n) : upFrom (i : Int) (n - i) = (i : Int) :: upFrom ((i + 1 : Nat) : Int) (n - (i + 1)) := by
  obtain ⟨d, hd⟩ : ∃ d, n - i = d + 1 := ⟨n - i - 1, by omega⟩
  rw [hd, show n - (i + 1) = d by omega]
  apply List.ext_getElem
  · simp [upFrom_length]
  · intro m h1 h2
    rw [upFrom_length] at h1
    rw [upFrom_get _ _ _ h1]
    cases m with
    | zero => simp
    | succ m =>
      simp only [List.getElem_cons_succ]
      rw [upFrom_get _ _ _ (by omega)]
      push_cast; omega

/-- The row of numbers in block g. -/
def RowIn (w : World) (g : Nat) (zs : List Int) : Prop := w.heap[g]? = some (.cells (zs.map (Value.int .i64)).toArray 3 (0, 0))
theorem RowIn.at {w : World} {g : Nat} {zs : List Int} (h : RowIn w g zs) {k : Nat} {z : Int} (hk : zs[k]? = some z) : w.cell? ⟨g, k, none⟩ = some (.int .i64 z) := by
  rw [cell_of_row w g k _ _ (0, 0) h]
  simp [hk]
theorem RowIn.froz {w : World} {g : Nat} {zs : List Int} (h : RowIn w g zs) (k : Nat) : w.frozen? ⟨g, k, none⟩ = false := frozen_of_row w g k _ _ h
theorem RowIn.set {w : World} {g : Nat} {zs : List Int} (h : RowIn w g zs) (k : Nat) (z : Int) : RowIn (w.setCell ⟨g, k, none⟩ (.int .i64 z)) g (zs.set k z) := by
  unfold RowIn
  rw [heap_setCell_same w g k _ _ _ h]
  simp
theorem RowIn.keep {w w' : World} {g : Nat} {zs : List Int} (h : RowIn w g zs) (hb : Below w.heap.size w w') : RowIn w' g zs := (hb.block g (lt_of_heap h)).trans h

set_option maxRecDepth 100000 in
set_option maxHeartbeats 8000000 in
theorem insSort_any (g n b7 b5 : Nat) (rs : List (List Int)) (loop : Bool) (w : World) (hn : n = rs.length) (hv : housesB rs = true) (hc : CmpAt w g loop b7 b5 rs) (hrow : RowIn w g (upFrom 0 n)) (F : Value) (hF : F = .func (Fn.func 58) #[] #[.pointer (some ⟨b7, 0, none⟩), .pointer (some ⟨b5, 0, none⟩)]) :
    Calls Try.prog 118 #[.slice (some ⟨g, 0, none⟩) n n, .int .i64 0, .int .i64 n, F] w fun e w' => e = .returned (.tuple #[]) ∧ RowIn w' g (ordL (ltH rs loop) n) ∧ Below g w w' := by
  subst hF
  have hl6 := house_len hv
  have hnle : n ≤ rs.length := by omega
  have hnge : rs.length ≤ n := by omega
  clear hn
  have HV := Lib.hid hv
  clear hv
  by_cases h2 : n < 2
  · have hd : decide ((1 : Int) < (n : Int)) = false := decide_eq_false (by omega)
    have HF := Lib.hid (show RowIn w g (ordL (ltH rs loop) n) by
      have : ordL (ltH rs loop) n = upFrom 0 n := by
        rcases (show n = 0 ∨ n = 1 by omega) with h | h
        · rw [h]; rfl
        · rw [h]; rfl
      rw [this]; exact hrow)
    clear hrow hc
    go_enter Try.func118, Try.ntmps118
    go_wp2
    go_rounds 1
    go_end0
    exact ⟨rfl, HF.out, Below.refl _ _⟩
  · have HST := Lib.hid (show RowIn w g (ordL (ltH rs loop) 1 ++ upFrom ((1 : Nat) : Int) (n - 1)) by
      have : ordL (ltH rs loop) 1 ++ upFrom ((1 : Nat) : Int) (n - 1) = upFrom 0 n := by
        have := ups_cons 0 n (by omega)
        rw [Nat.sub_zero] at this
        rw [show (0 : Int) = ((0 : Nat) : Int) from rfl, this]; rfl
      rw [this]; exact hrow)
    clear hrow
    have hgl : g < w.heap.size := lt_of_heap HST.out
    go_enter Try.func118, Try.ntmps118
    go_wp2
    go_loopw [8] (fun v wr => ∃ i : Nat, 1 ≤ i ∧ i ≤ n ∧ v = .int .i64 i ∧ RowIn wr g (ordL (ltH rs loop) i ++ upFrom (i : Int) (n - i)) ∧ Below g w wr) (fun v _ => n - (intOf v).toNat)
    case atStart => exact ⟨1, by omega, by omega, rfl, HST.out, Below.refl _ _⟩
    case round =>
      obtain ⟨i, hi1, hin, rfl, hrow, hbr⟩ := hrel
      clear HST
      have HBR := Lib.hid hbr
      have hbz := hbr.size
      obtain ⟨W, hW⟩ : ∃ W : World, W = wr := ⟨_, rfl⟩
      subst hW
      by_cases hlt : i < n
      · obtain ⟨l, hl⟩ : ∃ l, ordL (ltH rs loop) i = l := ⟨_, rfl⟩
        have hll : l.length = i := by rw [← hl]; exact ordL_length _ _
        have hst : RowIn W g (slide l i i (upFrom ((i + 1 : Nat) : Int) (n - (i + 1)))) := by
          rw [ups_cons i n hlt, hl] at hrow
          have := slide_end l (upFrom ((i + 1 : Nat) : Int) (n - (i + 1))) i
          rw [hll] at this
          rw [this]; exact hrow
        have HL := Lib.hid hl
        have HLL := Lib.hid hll
        have HS := Lib.hid hst
        have hiI : (i : Int) < n := by omega
        clear hl hll hst hrow hbr
        go_wp2
        go_loopw [9] (fun v wx => ∃ k : Nat, k ≤ i ∧ v = .int .i64 k ∧ Hid (scanK (ltH rs loop i) l i = scanK (ltH rs loop i) l k) ∧ RowIn wx g (slide l k i (upFrom ((i + 1 : Nat) : Int) (n - (i + 1)))) ∧ Below g w wx) (fun v _ => (intOf v).toNat)
        case atStart => exact ⟨i, Nat.le_refl _, rfl, Lib.hid rfl, HS.out, HBR.out⟩
        case round =>
          obtain ⟨k, hki, rfl, HSC, hrow, hbx⟩ := hrel
          clear HS
          have HROW := Lib.hid hrow
          have HBX := Lib.hid hbx
          obtain ⟨X, hX⟩ : ∃ X : World, X = wr := ⟨_, rfl⟩
          subst hX
          have hxz := hbx.size
          clear hrow hbx
          by_cases hk0 : k = 0
          · have hd : decide (0 < k) = false := decide_eq_false (by omega)
            have HF := Lib.hid (show RowIn X g (ordL (ltH rs loop) (i + 1) ++ upFrom ((i + 1 : Nat) : Int) (n - (i + 1))) by
              have h1 := HROW.out
              rw [ordL, HL.out, HSC.out, hk0]
              rw [hk0] at h1
              exact h1)
            clear hk0
            go_wp2
            go_quiet (fail)
            go_simp
            go_wp2
            go_roundw
            case rel => exact ⟨i + 1, by omega, by omega, by go_num, HF.out, below_drewN HBX.out nq⟩
            case measure => simp [intOf]; omega
          · obtain ⟨m, hm⟩ : ∃ m, k = m + 1 := ⟨k - 1, by omega⟩
            have hd : decide (0 < k) = true := decide_eq_true (by omega)
            obtain ⟨j, hj, hji⟩ : ∃ j : Nat, l.getD m 0 = (j : Int) ∧ j < i := by
              have := ordL_get (lt := ltH rs loop) (n := i) (k := m) (by omega)
              rwa [HL.out] at this
            have c1 : X.cell? ⟨g, k, none⟩ = some (.int .i64 i) := HROW.out.at (slide_at l _ k i (by rw [HLL.out]; exact hki))
            have c2 : X.cell? ⟨g, m, none⟩ = some (.int .i64 j) := HROW.out.at (by rw [hm]; rw [slide_before l _ m i (by rw [HLL.out]; omega), hj])
            have hgx : g < X.heap.size := by omega
            obtain ⟨cv, hcv⟩ : ∃ cv, cmpH (hAt rs i) (hAt rs j) loop = cv := ⟨_, rfl⟩
            have hlt2 := cmpH_lt HV.out (i := i) (k := j) (by omega) (by omega) loop
            rw [hcv, ← hj] at hlt2
            have HQ := Lib.hid (show ∀ Y, Below X.heap.size X Y → Calls Try.prog 58 #[.int .i64 i, .int .i64 j, .pointer (some ⟨b7, 0, none⟩), .pointer (some ⟨b5, 0, none⟩)] Y fun e w' => e = .returned (.int .i64 cv) ∧ Below Y.heap.size Y w' from fun Y hY => by
              rw [← hcv]
              exact cmp1_any i j b7 b5 rs loop Y g (hc.keep (HBX.out.trans (hY.mono (by omega)))) (by have := hY.size; omega) HV.out (by omega) (by omega))
            have HM := Lib.hid hm
            have HJ := Lib.hid hj
            have hmI : (k : Int) - 1 = (m : Int) := by omega
            have hmw : IntKind.i64.wrap ((k : Int) - 1) = (m : Int) := by rw [hmI]; exact IntWalk.i64_in _ (by omega)
            have hmw2 : IntKind.i64.wrap (m : Int) = (m : Int) := IntWalk.i64_in _ (by omega)
            have hkI : (k : Int) < n := by omega
            have hmn : m < n := by omega
            have hmI2 : (m : Int) < n := by omega
            have hk00 : (0 : Int) ≤ (k : Int) := by omega
            have hm00 : (0 : Int) ≤ (m : Int) := by omega
            have HC := Lib.hid (And.intro c1 c2)
            have q4 : Below X.heap.size X X.drew := ⟨rfl, rfl, rfl, Nat.le_refl _, fun _ _ => rfl⟩
            clear hj hcv hk0 hm c1 c2
            by_cases hneg : cv < 0
            · have HLT := Lib.hid (show ltH rs loop i (l.getD m 0) = true by rw [← hlt2]; exact decide_eq_true hneg)
              clear hlt2
              go_wp2
              go_region_held3 (fun w' => w'.cell? ⟨g, k, none⟩ = some (.int .i64 i) ∧ w'.cell? ⟨g, m, none⟩ = some (.int .i64 j))
                (first | exact ⟨cell_kept q5 hgx HC.out.1, cell_kept q5 hgx HC.out.2⟩ | exact ⟨cell_kept q4 hgx HC.out.1, cell_kept q4 hgx HC.out.2⟩)
                ((first
                  | (go_at_call 58; refine (HQ.out _ q4).mono ?_; rintro e w5 ⟨rfl, b5'⟩; have q5 : Below X.heap.size X w5 := q4.trans b5')
                  | fail))
              have d1 := cell_kept q5 hgx HC.out.1
              have d2 := cell_kept q5 hgx HC.out.2
              have hr5 := HROW.out.keep q5
              have f1 := hr5.froz k
              have f2 := hr5.froz m
              have HR5 := Lib.hid hr5
              have HB5 := Lib.hid (HBX.out.trans (q5.mono (Nat.le_of_lt hgx)))
              clear q4 q5 b5' hr5
              go_simp
              go_wp2
              go_region
              all_goals
                clear d1 d2 f1 f2 hmw hmw2
                go_wp2
                go_roundw
                case rel =>
                  refine ⟨m, by have := HM.out; omega, by go_num, Lib.hid (by rw [HSC.out, HM.out]; exact scanK_yes HLT.out), ?_, ?_⟩
                  · have h1 := (HR5.out.set k (j : Int)).set m (i : Int)
                    have h2 := slide_swap l (upFrom ((i + 1 : Nat) : Int) (n - (i + 1))) m (i : Int) (by rw [HLL.out]; have := HM.out; omega)
                    rw [← h2, ← HM.out, HJ.out]
                    exact h1
                  · have h1 := (HB5.out.setCell (p := ⟨g, k, none⟩) (Nat.le_refl _) (.int .i64 (j : Int))).setCell (p := ⟨g, m, none⟩) (Nat.le_refl _) (.int .i64 (i : Int))
                    exact ⟨h1.os, h1.tape, h1.output, h1.size, h1.block⟩
                case measure => simp [intOf]; have := HM.out; omega
            · have HLT := Lib.hid (show ltH rs loop i (l.getD m 0) = false by rw [← hlt2]; exact decide_eq_false hneg)
              have hnn : 0 ≤ cv := by omega
              clear hlt2 hneg
              go_wp2
              go_region_held3 (fun w' => w'.cell? ⟨g, k, none⟩ = some (.int .i64 i) ∧ w'.cell? ⟨g, m, none⟩ = some (.int .i64 j))
                (first | exact ⟨cell_kept q5 hgx HC.out.1, cell_kept q5 hgx HC.out.2⟩ | exact ⟨cell_kept q4 hgx HC.out.1, cell_kept q4 hgx HC.out.2⟩)
                ((first
                  | (go_at_call 58; refine (HQ.out _ q4).mono ?_; rintro e w5 ⟨rfl, b5'⟩; have q5 : Below X.heap.size X w5 := q4.trans b5')
                  | fail))
              have hr5 := HROW.out.keep q5
              have HF := Lib.hid (show RowIn w5 g (ordL (ltH rs loop) (i + 1) ++ upFrom ((i + 1 : Nat) : Int) (n - (i + 1))) by
                have hk : k = scanK (ltH rs loop i) l i := by rw [HSC.out, HM.out]; exact (scanK_no HLT.out).symm
                rw [ordL, HL.out, ← hk]
                exact hr5)
              have HB5 := Lib.hid (HBX.out.trans (q5.mono (Nat.le_of_lt hgx)))
              clear q4 q5 b5' hr5 hmw hmw2 hmI
              go_simp
              go_wp2
              go_roundw
              case rel => exact ⟨i + 1, by omega, by omega, by go_num, HF.out, HB5.out⟩
              case measure => simp [intOf]; omega
      · have hn' : i = n := by omega
        have HF := Lib.hid (show RowIn W g (ordL (ltH rs loop) n) by
          rw [hn', Nat.sub_self] at hrow
          simpa [upFrom] using hrow)
        clear hrow hbr hn'
        go_wp2
        go_end0
        exact ⟨rfl, HF.out, HBR.out⟩
end Go.Proofs.Ytlgeoilnjgojnaa
