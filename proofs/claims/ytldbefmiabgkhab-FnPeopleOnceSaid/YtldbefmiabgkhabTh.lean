/- impl.PeopleOf: slices.IndexFunc and slices.DeleteFunc with its closure. No condition. -/
import Derived.Test.YtldbefmiabgkhabTg
import Derived.Laws.IdiomCopy
import Derived.Deep.Upon
namespace Go.Proofs.Ytldbefmiabgkhab
open Go.RowKit
open Go.Maps

set_option maxRecDepth 100000 in
theorem isGroup_any (bp : Nat) (A : Option Addr) (n c : Nat) (x : Int) (w : World) (hbp : w.cell? ⟨bp, 0, none⟩ = some (.slice A n c)) :
    Calls Try.prog 31 #[.int .i64 x, .pointer (some ⟨bp, 0, none⟩)] w fun e w' => e = .returned (.bool (decide (x < (n : Int)))) ∧ w' = w := by
  go_enter Try.func31, Try.ntmps31
  go_wp2
  go_ret
  exact ⟨rfl, rfl⟩

/-- The closure. -/
def fnGroup (bp : Nat) : Value := .func (Fn.func 31) #[] #[.pointer (some ⟨bp, 0, none⟩)]

set_option maxRecDepth 100000 in
set_option maxHeartbeats 2000000 in
theorem indexGroup_any (bp : Nat) (A B : Option Addr) (n c cB : Nat) (V : List Int) (BB : Nat) (w : World) (hbp : w.cell? ⟨bp, 0, none⟩ = some (.slice A n c)) (hV : Ints w BB B V) (hl : V.length ≤ 1000) :
    Calls Try.prog 41 #[.slice B V.length cB, .func (Fn.func 31) #[] #[.pointer (some ⟨bp, 0, none⟩)]] w fun e w' => ((∃ k : Nat, e = .returned (.int .i64 (k : Int)) ∧ k < V.length ∧ V.getD k 0 < (n : Int) ∧ ∀ j, j < k → (n : Int) ≤ V.getD j 0) ∨ (e = .returned (.int .i64 (-1)) ∧ ∀ j, j < V.length → (n : Int) ≤ V.getD j 0)) ∧ w = w' := by
  go_enter Try.func41, Try.ntmps41
  go_wp2
  go_loop [8] (fun i => ∃ k : Nat, k ≤ V.length ∧ i = .int .i64 k ∧ Hid (∀ j, j < k → (n : Int) ≤ V.getD j 0)) (fun i => V.length - (intOf i).toNat)
  case atStart => exact ⟨0, by omega, rfl, Lib.hid (fun j hj => by omega)⟩
  case round =>
    obtain ⟨k, hk, rfl, HN⟩ := hrel
    by_cases hlt : k < V.length
    · obtain ⟨b, o, rfl, hb, hc⟩ := hV.open (by simp; omega)
      have hcell := ints_at hc hlt
      have HZ := Lib.hid (getD_get hlt)
      have hkI : (k : Int) < V.length := by omega
      obtain ⟨z, hz⟩ : ∃ z, V[k] = z := ⟨_, rfl⟩
      rw [hz] at hcell HZ
      have HC := Lib.hid (isGroup_any bp A n c z w hbp)
      clear hc hz
      by_cases hzn : z < (n : Int)
      · rw [decide_eq_true hzn] at HC
        have HF := Lib.hid (show V.getD k 0 < (n : Int) by rw [HZ.out]; exact hzn)
        clear hzn
        go_wp2_with (go_at_call 31; (with_reducible refine HC.out.mono ?_); rintro e w' ⟨rfl, rfl⟩)
        go_ret
        exact ⟨.inl ⟨k, rfl, hlt, HF.out, HN.out⟩, rfl⟩
      · rw [decide_eq_false hzn] at HC
        have HNN := Lib.hid (show ∀ j, j < k + 1 → (n : Int) ≤ V.getD j 0 from fun j hj => by
          by_cases e : j = k
          · rw [e, HZ.out]; omega
          · exact HN.out j (by omega))
        clear hzn
        go_wp2_with (go_at_call 31; (with_reducible refine HC.out.mono ?_); rintro e w' ⟨rfl, rfl⟩)
        go_round
        case rel => exact ⟨k + 1, by omega, by go_num, Lib.hid HNN.out⟩
        case measure => simp [intOf]; omega
    · have hkn : k = V.length := by omega
      subst hkn
      go_wp2
      go_ret
      exact ⟨.inr ⟨rfl, HN.out⟩, rfl⟩

theorem zero_reps (m : Nat) : (Builtin.zeroCells (Value.int .i64 0).cells m).toList = List.replicate m (Value.int .i64 0) := by
  rw [List.eq_replicate_iff]
  constructor
  · simp [Builtin.zeroCells, Value.cells]
  · intro v hv
    simp only [Builtin.zeroCells, Value.cells, Array.toList_map, List.mem_map] at hv
    obtain ⟨i, _, rfl⟩ := hv
    show (#[Value.int .i64 0])[i % 1]! = _
    rw [Nat.mod_one]; rfl
theorem run_clearI (w : World) (ty : TypeId) (b o c m : Nat) (hm : 0 < m) (hc : ∀ j, j < m → (w.cell? ⟨b, o + j, none⟩).isSome = true) (hf : ∀ j, j < m → w.frozen? ⟨b, o + j, none⟩ = false) :
    (Builtin.clear_ #[24] ty #[.slice (some ⟨b, o, none⟩) m c]).run Try.prog w = .ok (.tuple #[]) (w.setCells b o (List.replicate m (.int .i64 0))) := by
  have hst := run_storeCells_cells (P := Try.prog) b o (List.replicate m (Value.int .i64 0)) 0 w (by simpa using hc) (by simpa using hf) (by intro v hv'; rw [List.eq_of_mem_replicate hv']; rfl)
  simp only [Nat.add_zero] at hst
  obtain ⟨d, rfl⟩ : ∃ d, m = d + 1 := ⟨m - 1, by omega⟩
  simp [Builtin.clear_, run_underlying Try.underlying24, zero_reps, hst]
theorem slice_fromI (b o n c i : Nat) (h : i < n) (hc : n ≤ c) (W : World) :
    (Instr.slice 24 (.slice (some ⟨b, o, none⟩) n c) (some (.int .i64 (i : Int))) none none).run Try.prog W = .ok (.slice (some ⟨b, o + i, none⟩) (n - i) (c - i)) W := by
  have h1 : (0 : Int) ≤ (i : Int) := by omega
  have h2 : (i : Int) ≤ (n : Int) := by omega
  have h4 : ¬ c = i := by omega
  go_simp
theorem slice_toI (b o n c j : Nat) (h : j ≤ c) (W : World) :
    (Instr.slice 24 (.slice (some ⟨b, o, none⟩) n c) none (some (.int .i64 (j : Int))) none).run Try.prog W = .ok (.slice (some ⟨b, o, none⟩) j c) W := by
  have h1 : (0 : Int) ≤ (j : Int) := by omega
  have h2 : (j : Int) ≤ (c : Int) := by omega
  go_simp
theorem below_setCellsI {B : Nat} {a : World} (g : Nat) (hg : B ≤ g) : ∀ (vs : List Value) (o : Nat) {w : World}, Below B a w → Below B a (w.setCells g o vs)
  | [], _, _, h => h
  | v :: r, o, _, h => below_setCellsI g hg r (o + 1) (h.setCell (p := ⟨g, o, none⟩) hg v)

theorem size_setCellsI (g : Nat) : ∀ (vs : List Value) (o : Nat) (w : World), (w.setCells g o vs).heap.size = w.heap.size
  | [], _, _ => rfl
  | v :: r, o, w => by
    show ((w.setCell ⟨g, o, none⟩ v).setCells g (o + 1) r).heap.size = _
    rw [size_setCellsI g r (o + 1)]; simp

def qP (n : Nat) (z : Int) : Bool := !decide (z < (n : Int))
theorem filt_take {V : List Int} {n j : Nat} (hj : j < V.length) : (V.take (j + 1)).filter (qP n) = (V.take j).filter (qP n) ++ (if qP n V[j] then [V[j]] else []) := by
  rw [List.take_succ_eq_append_getElem hj, List.filter_append]
  congr 1
  by_cases h : qP n V[j] = true
  · simp [h]
  · simp [h]
theorem filt_len (V : List Int) (n j : Nat) : ((V.take j).filter (qP n)).length ≤ j := by
  have h1 := List.length_filter_le (qP n) (V.take j)
  have h2 := List.length_take_le j V
  omega
theorem filt_first {V : List Int} {n k : Nat} (hk : k < V.length) (h1 : V.getD k 0 < (n : Int)) (h2 : ∀ j, j < k → (n : Int) ≤ V.getD j 0) : (V.take (k + 1)).filter (qP n) = V.take k := by
  rw [filt_take hk, getD_get hk] at *
  rw [show qP n V[k] = false by simp [qP, h1]]
  simp only [Bool.false_eq_true, if_false, List.append_nil]
  rw [List.filter_eq_self]
  intro z hz
  obtain ⟨j, hj, rfl⟩ := List.getElem_of_mem hz
  rw [List.length_take] at hj
  have := h2 j (by omega)
  rw [getD_get (by omega)] at this
  simp [qP]; omega
theorem filt_none {V : List Int} {n : Nat} (h2 : ∀ j, j < V.length → (n : Int) ≤ V.getD j 0) : V.filter (qP n) = V := by
  rw [List.filter_eq_self]
  intro z hz
  obtain ⟨j, hj, rfl⟩ := List.getElem_of_mem hz
  have := h2 j hj
  rw [getD_get hj] at this
  simp [qP]; omega

def DelPost (w : World) (base g o cV : Nat) (F : List Int) (e : Ending) (w' : World) : Prop := ∃ m, m = F.length ∧ e = .returned (.slice (some ⟨g, o, none⟩) m cV) ∧ OwnInts w' base w'.heap.size (some ⟨g, o, none⟩) F ∧ Below base w w'

set_option maxRecDepth 100000 in
set_option maxHeartbeats 8000000 in
theorem deleteGroup_any (bp : Nat) (A : Option Addr) (n c g o cV : Nat) (V : List Int) (base : Nat) (w : World) (hbp : w.cell? ⟨bp, 0, none⟩ = some (.slice A n c)) (hne : bp < g) (hV : OwnInts w base w.heap.size (some ⟨g, o, none⟩) V) (h0 : 0 < V.length) (hl : V.length ≤ 1000) (hc : V.length ≤ cV) :
    Calls Try.prog 32 #[.slice (some ⟨g, o, none⟩) V.length cV, .func (Fn.func 31) #[] #[.pointer (some ⟨bp, 0, none⟩)]] w (DelPost w base g o cV (V.filter (qP n))) := by
  have HIX := Lib.hid (indexGroup_any bp A (some ⟨g, o, none⟩) n c cV V _ w hbp hV.row hl)
  obtain ⟨b', o', e, hbase, hgw, _, _⟩ := hV.open' (by omega) (by simp; omega)
  simp only [Option.some.injEq, Addr.mk.injEq, and_true] at e
  obtain ⟨rfl, rfl⟩ := e
  have hbg : base ≤ g := by omega
  have HV := Lib.hid hV
  have HBP := Lib.hid hbp
  clear hV hbp
  go_enter Try.func32, Try.ntmps32
  go_wp2_with fail
  refine HIX.out.mono ?_
  rintro e w1 ⟨⟨k, rfl, hk, hk1, hk2⟩ | ⟨rfl, hno⟩, rfl⟩
  · have HF := Lib.hid (filt_first hk hk1 hk2)
    have HX := Lib.hid HV.out
    have hkm : ((k : Int) == -1) = false := by rw [beq_eq_false_iff_ne]; omega
    clear hk1 hk2
    go_wp2_with fail
    clear hkm
    go_loopw [5, 6] (fun vi vj wr => ∃ (i j : Nat) (X : List Int), i < j ∧ j ≤ V.length ∧ vi = .int .i64 i ∧ vj = .int .i64 j ∧ X.length = V.length ∧ Hid (i = ((V.take j).filter (qP n)).length ∧ X.take i = (V.take j).filter (qP n) ∧ X.drop j = V.drop j) ∧ OwnInts wr base w.heap.size (some ⟨g, o, none⟩) X ∧ Below g w wr ∧ wr.heap.size = w.heap.size) (fun _ vj _ => V.length - (intOf vj).toNat)
    case atStart => exact ⟨k, k + 1, V, by omega, by omega, rfl, by go_num, rfl, Lib.hid ⟨by rw [HF.out, List.length_take]; omega, HF.out.symm, rfl⟩, HX.out, Below.refl _ _, rfl⟩
    case round =>
      clear HF HX
      obtain ⟨i, j, X, hij, hj, rfl, rfl, hXl, HX, hown, hbr, hsz⟩ := hrel
      have HO := Lib.hid hown
      have HBR := Lib.hid hbr
      have HXL := Lib.hid hXl
      have HSZ := Lib.hid hsz
      obtain ⟨b', o', e, _, _, hcells, hfr⟩ := hown.open' (by omega) (by simp; omega)
      simp only [Option.some.injEq, Addr.mk.injEq, and_true] at e
      obtain ⟨rfl, rfl⟩ := e
      have hbpr := (hbr.cell (p := ⟨bp, 0, none⟩) hne).trans HBP.out
      by_cases hlt : j < V.length
      · have hcj := ints_at (zs := X) hcells (k := j) (by omega)
        have hci := ints_at (zs := X) hcells (k := i) (by omega)
        have hfi := hfr (o + i)
        have hXj : X[j]'(by omega) = V[j] := by
          have h1 := congrArg (fun l => l[0]?) HX.out.2.2
          simp only [List.getElem?_drop, Nat.add_zero] at h1
          rw [List.getElem?_eq_getElem (by omega), List.getElem?_eq_getElem hlt] at h1
          injection h1
        rw [hXj] at hcj
        obtain ⟨yi, hyi⟩ : ∃ y, X[i]'(by omega) = y := ⟨_, rfl⟩
        rw [hyi] at hci
        clear hyi
        have HFT := Lib.hid (filt_take (n := n) hlt)
        have hjI : (j : Int) < (V.length : Int) := by omega
        have hiI : (i : Int) < (V.length : Int) := by omega
        obtain ⟨z, hz⟩ : ∃ z, V[j] = z := ⟨_, rfl⟩
        rw [hz] at hcj HFT
        have HC := Lib.hid (isGroup_any bp A n c z wr hbpr)
        have HDR := Lib.hid (show ∀ Y : List Int, Y.drop j = V.drop j → Y.drop (j + 1) = V.drop (j + 1) from fun Y h => by rw [← List.drop_drop, ← List.drop_drop, h])
        clear hXj hz hXl hcells hfr hown hbr hbpr hsz
        by_cases hzn : z < (n : Int)
        · rw [decide_eq_true hzn] at HC
          have HT := Lib.hid (show (V.take (j + 1)).filter (qP n) = (V.take j).filter (qP n) by rw [HFT.out, show qP n z = false by simp [qP, hzn]]; simp)
          clear hzn
          go_wp2_with (go_at_call 31; (with_reducible refine HC.out.mono ?_); rintro e w' ⟨rfl, rfl⟩)
          go_roundw
          case rel => exact ⟨i, j + 1, X, by omega, by omega, rfl, by go_num, HXL.out, Lib.hid ⟨by rw [HT.out]; exact HX.out.1, by rw [HT.out]; exact HX.out.2.1, HDR.out X HX.out.2.2⟩, HO.out, HBR.out, HSZ.out⟩
          case measure => simp [intOf]; omega
        · rw [decide_eq_false hzn] at HC
          have HT := Lib.hid (show (V.take (j + 1)).filter (qP n) = (V.take j).filter (qP n) ++ [z] by rw [HFT.out, show qP n z = true by simp [qP, hzn]]; simp)
          have HTK := Lib.hid (show (X.set i z).take (i + 1) = X.take i ++ [z] by
            rw [List.take_succ_eq_append_getElem (by rw [List.length_set, HXL.out]; omega), List.getElem_set_self, List.take_set_of_le (Nat.le_refl _)])
          have HSD := Lib.hid (show (X.set i z).drop (j + 1) = V.drop (j + 1) by
            rw [List.drop_set_of_lt (by omega)]; exact HDR.out X HX.out.2.2)
          clear hzn
          go_wp2_with (go_at_call 31; (with_reducible refine HC.out.mono ?_); rintro e w' ⟨rfl, rfl⟩)
          go_roundw
          case rel => exact ⟨i + 1, j + 1, X.set i z, by omega, by omega, by go_num, by go_num, by rw [List.length_set]; exact HXL.out, Lib.hid ⟨by rw [HT.out, List.length_append, ← HX.out.1]; rfl, by rw [HT.out, HTK.out, HX.out.2.1], HSD.out⟩, by have h := HO.out.set i (.int .i64 z); rw [← List.map_set] at h; exact h, HBR.out.setCell (p := ⟨g, o + i, none⟩) (Nat.le_refl _) _, by rw [← HSZ.out]; simp⟩
          case measure => simp [intOf]; omega
      · have hje : j = V.length := by omega
        subst hje
        have hsl := fun W => slice_fromI g o V.length cV i hij hc W
        have hsl2 := fun W => slice_toI g o V.length cV i (by omega) W
        have hcl := fun ty => run_clearI wr ty g (o + i) (cV - i) (V.length - i) (by omega) (fun t ht => by
          have := ints_at (zs := X) hcells (k := i + t) (by omega)
          rw [show o + i + t = o + (i + t) by omega, this]; rfl) (fun t ht => hfr _)
        have HW := Lib.hid (show ∀ W', W' = wr.setCells g (o + i) (List.replicate (V.length - i) (Value.int .i64 0)) → DelPost w base g o cV (V.filter (qP n)) (.returned (.slice (some ⟨g, o, none⟩) i cV)) W' from fun W' hW' => by
          have hT := HX.out.2.1
          have hI := HX.out.1
          rw [List.take_length] at hT hI
          refine ⟨i, hI, rfl, ?_, ?_⟩
          · rw [← hT, hW']
            refine .inr ⟨g, o, rfl, by omega, ?_, fun t u hu => ?_, fun _ t => ?_⟩
            · rw [size_setCellsI]; omega
            · rw [List.getElem?_map, List.getElem?_take] at hu
              by_cases hti : t < i
              · rw [if_pos hti] at hu
                rw [World.cell?_setCells_out g _ _ _ _ (fun _ _ => by simp; omega)]
                exact hcells t u (by rw [List.getElem?_map]; exact hu)
              · rw [if_neg hti] at hu; cases hu
            · rw [World.frozen?_setCells]; exact hfr t
          · rw [hW']; exact below_setCellsI g hbg _ _ (HBR.out.mono hbg))
        clear hcells hfr hown hbr hbpr hXl hsz
        go_wp2_with fail
        go_ret
        exact HW.out _ rfl
  · have HF := Lib.hid (filt_none hno)
    clear hno
    go_wp2_with fail
    go_ret
    exact ⟨V.length, by rw [HF.out], rfl, by rw [HF.out]; exact HV.out, Below.refl _ _⟩
end Go.Proofs.Ytldbefmiabgkhab
