/- impl.passOf: letters are sent over channels. No condition. -/
import Derived.Test.YtdgdlmpmoafkgaaP1
import Derived.Test.YtdgdlmpmoafkgaaCh
import Derived.Deep.Cut
namespace Go.Proofs.Ytdgdlmpmoafkgaa
open Go.RowKit

theorem Try.infoC : (Try.prog.info? 55).map (fun i => (i.zero, i.size, i.bytes)) = some (some (.chan none), 1, 8) := by kernel_rfl
theorem makeChan_any (n : Nat) (hn : n ≤ 1000) (W : World) : (Instr.makeChan 55 (.int .i64 n)).run Try.prog W = .ok (.chan (some W.heap.size)) (W.alloc (.chan n #[] false 0 0 false)) := by
  obtain ⟨i, hi, _, _, hb⟩ := info_parts Try.info3
  exact Conc.run_makeChan (P := Try.prog) (w := W) Try.underlying55 hi .i64 n (by omega) (by rw [hb]; omega)

theorem own_heap {w : World} {base : Nat} {e : TypeId} {k g : Nat} {xs : List Value} (h : w.ownsRow base e 1 (.slice (some ⟨g, 0, none⟩) k k) k xs) : w.heap[g]? = some (.cells xs.toArray e (0, 0)) := by
  rcases h.2 with ⟨hv, _⟩ | ⟨g', cap, cur, hv, _, hh, _, _, hcs, ht⟩
  · cases hv
  · simp only [Value.slice.injEq, Option.some.injEq, Addr.mk.injEq, and_true, true_and] at hv
    obtain ⟨rfl, rfl⟩ := hv
    rw [hh, ← ht, List.take_of_length_le (Nat.le_of_eq (by rw [Array.length_toList, hcs]))]

/-- The channels of a pass: k of them, the first i made. -/
def chanRow (C k i : Nat) : List Value := (List.range k).map fun j => if j < i then .chan (some (C + j)) else .chan none
theorem chanRow_get {C k i j : Nat} (h : j < k) : (chanRow C k i)[j]? = some (if j < i then .chan (some (C + j)) else .chan none) := by
  simp [chanRow, List.getElem?_map, List.getElem?_range h]
theorem chanRow_set {C k i : Nat} : (chanRow C k i).set i (.chan (some (C + i))) = chanRow C k (i + 1) := by
  apply List.ext_getElem?
  intro j
  rw [List.getElem?_set]
  by_cases hj : j < k
  · rw [chanRow_get hj, chanRow_get hj]
    by_cases e : i = j
    · subst e; simp [chanRow, hj]
    · rw [if_neg e]
      by_cases h2 : j < i
      · rw [if_pos h2, if_pos (by omega)]
      · rw [if_neg h2, if_neg (by omega)]
  · have h1 : ∀ i, (chanRow C k i)[j]? = none := fun i => List.getElem?_eq_none (by simp [chanRow]; omega)
    rw [h1, h1]
    split
    · split
      · rename_i _ h; simp [chanRow] at h; omega
      · rfl
    · rfl

set_option maxRecDepth 100000 in
set_option maxHeartbeats 4000000 in
theorem passOf_any (A B : Option Addr) (c d : Nat) (zs bs : List Int) (k : Nat) (w : World) (hr : Ints w w.heap.size A zs) (hs : Ints w w.heap.size B bs) (hl : zs.length ≤ 9) (hlb : bs.length = zs.length) (hk : k ≤ 4) (hb : ∀ (i : Nat) (hi : i < bs.length), 0 ≤ bs[i] ∧ bs[i] < k) :
    Calls Try.prog 36 #[.slice A zs.length c, .slice B bs.length d, .int .i64 k] w fun e w' => ∃ A' c', e = .returned (.slice A' (passL zs bs k).length c') ∧ (passL zs bs k).length ≤ c' ∧ OwnInts w' w.heap.size w'.heap.size A' (passL zs bs k) ∧ Below w.heap.size w w' := by
  obtain ⟨i0, hi0, hz0, hz1, hz2⟩ := info_parts Try.info3
  obtain ⟨ic, hic, hc0, hc1, hc2⟩ := info_parts Try.infoC
  have hmc := makeChan_any zs.length (by omega)
  have HLB := Lib.hid hlb
  have HB := Lib.hid hb
  have hlb1 : zs.length ≤ bs.length := by omega
  have hlb2 : bs.length ≤ 9 := by omega
  clear hlb hb
  go_enter Try.func36, Try.ntmps36
  go_wp2_with (at_make; refine wpList_make_full _ rfl (.tmp 15) (.tmp 15) _ rfl w.heap.size 55 ic (.chan none) 1 Try.underlying54 hic hc0 hc1 _ _ _ _ _ rfl rfl rfl rfl (by rw [hc2]; omega) (by unfold maxLen; omega) (Nat.le_refl _) ?_)
  intro w1 hown hg
  have hb1 : Below w.heap.size w w1 := (Below.refl _ _).grown hg (Nat.le_refl _) (by simp)
  have hlt1 : w.heap.size < w1.heap.size := (hown.lt _ rfl).2
  have hrow := own_heap hown
  rw [show (madeCells #[Value.chan none] k).toList = chanRow w1.heap.size k 0 by
    rw [toList_madeCells_one]; apply List.ext_getElem <;> simp [chanRow]] at hrow
  obtain ⟨C, hC⟩ : ∃ C, w1.heap.size = C := ⟨_, rfl⟩
  rw [hC] at hrow hlt1
  have HC := Lib.hid hC
  have HROW := Lib.hid hrow
  clear hown hg hrow hC
  go_wp2
  go_loopw [19] (fun i wr => ∃ j : Nat, j ≤ k ∧ i = .int .i64 j ∧ wr.heap[w.heap.size]? = some (.cells (chanRow C k j).toArray 55 (0, 0)) ∧ wr.heap.size = C + j ∧ (∀ q, q < j → wr.heap[C + q]? = some (.chan zs.length #[] false 0 0 false)) ∧ Below w.heap.size w wr) (fun i _ => k - (intOf i).toNat)
  case atStart => exact ⟨0, by omega, rfl, HROW.out, by have := HC.out; omega, by simp, hb1⟩
  case round =>
    obtain ⟨j, hj, rfl, hrow, hsz, hch, hbr⟩ := hrel
    have HR := Lib.hid hrow
    have HS := Lib.hid hsz
    have HCH := Lib.hid hch
    have HBR := Lib.hid hbr
    have hCr : C ≤ wr.heap.size := by omega
    clear hb1 hrow hsz hch hbr
    by_cases hlt : j < k
    · have hd1 : decide (j < k) = true := decide_eq_true hlt
      have hrow2 : (wr.alloc (.chan zs.length #[] false 0 0 false)).heap[w.heap.size]? = some (.cells (chanRow C k j).toArray 55 (0, 0)) := heap_more _ HR.out
      have hat : (wr.alloc (.chan zs.length #[] false 0 0 false)).cell? ⟨w.heap.size, j, none⟩ = some (.chan none) := by
        rw [cell_of_row _ _ j _ _ _ hrow2]
        have := chanRow_get (C := C) (i := j) hlt
        rw [if_neg (by omega)] at this
        simpa using this
      have hfr := frozen_of_row (wr.alloc (.chan zs.length #[] false 0 0 false)) w.heap.size j _ _ hrow2
      have HR2 := Lib.hid hrow2
      clear hrow2
      go_wp2
      clear hd1
      go_roundw
      case rel =>
        have hS := HS.out
        refine ⟨j + 1, by omega, by go_num, ?_, by simp [World.setCell]; omega, fun q hq => ?_, (HBR.out.alloc HBR.out.size _).setCell (p := ⟨w.heap.size, j, none⟩) (Nat.le_refl _) _⟩
        · rw [heap_setCell_same _ w.heap.size j _ _ _ HR2.out, hS, List.setIfInBounds_toArray, chanRow_set]
        · rw [Below.heap_setCell _ _ _ _ (show C + q ≠ w.heap.size by omega)]
          by_cases hqj : q < j
          · exact heap_more _ (HCH.out q hqj)
          · exact heap_new _ (by omega)
      case measure => simp [intOf]; omega
    · have hj' : j = k := by omega
      subst hj'
      have hd1 : decide (j < j) = false := by simp
      go_wp2
      clear hd1
      go_loopw [31] (fun i wr => ∃ n : Nat, n ≤ zs.length ∧ i = .int .i64 n ∧ wr.heap[w.heap.size]? = some (.cells (chanRow C j j).toArray 55 (0, 0)) ∧ wr.heap.size = C + j ∧ (∀ q, q < j → ∃ s, wr.heap[C + q]? = some (.chan zs.length ((buck zs bs q n).map (Value.int .i64)).toArray false s 0 false)) ∧ Below w.heap.size w wr) (fun i _ => zs.length - (intOf i).toNat)
      case atStart => exact ⟨0, by omega, rfl, HR.out, HS.out, fun q hq => ⟨0, by simpa [buck] using HCH.out q hq⟩, HBR.out⟩
      case round =>
        clear HR HS HCH HBR hCr
        obtain ⟨n, hn, rfl, hrow, hsz, hch, hbr⟩ := hrel
        have HR := Lib.hid hrow
        have HS := Lib.hid hsz
        have HCH := Lib.hid hch
        have HBR := Lib.hid hbr
        by_cases hlt : n < zs.length
        · obtain ⟨ba, oa, rfl, _, hca⟩ := (hr.below hbr).open (by simp; omega)
          obtain ⟨bb, ob, rfl, _, hcb⟩ := (hs.below hbr).open (by simp; omega)
          have hcell := ints_at hca hlt
          have hcellb := ints_at hcb (show n < bs.length by omega)
          have hnb : (n : Int) < bs.length := by omega
          have hbn := HB.out n (by omega)
          obtain ⟨x, hx⟩ : ∃ x : Nat, bs[n]'(by omega) = (x : Int) := ⟨(bs[n]'(by omega)).toNat, by omega⟩
          rw [hx] at hcellb hbn
          have hxj : x < j := by omega
          obtain ⟨s, hchx⟩ := hch x hxj
          have hat : wr.cell? ⟨w.heap.size, x, none⟩ = some (.chan (some (C + x))) := by
            rw [cell_of_row _ _ x _ _ _ hrow]
            have := chanRow_get (C := C) (i := j) hxj
            rw [if_pos hxj] at this
            simpa using this
          have HX := Lib.hid hx
          have HCX := Lib.hid hchx
          clear hrow hsz hch hbr hca hcb hx hchx hbn
          go_upto_region 10 with fail
          refine sem_region ?_
          show SemOps _ _ _ [0, 1, 2, 3, 4, 5, 6, 7, 8] _ _
          iterate 8 (refine sem_op rfl rfl (fun K hK => ?_); go_simp; refine hK _ _ ?_; clear hK K)
          refine sem_send (c := C + x) (cap := zs.length) (v := .int .i64 zs[n]) (z' := .tuple #[]) rfl rfl (by simp [execOp, Conc.scase, Act.eval]) HCX.out (by have := buck_len zs bs x n; simp; omega) ?_
          refine sem_nil ?_
          go_simp
          go_wp2
          go_roundw
          case rel =>
            have hS := HS.out
            refine ⟨n + 1, by omega, by go_num, ?_, by rw [Conc.size_setChan]; exact hS, fun q hq => ?_, Conc.below_setChan HBR.out (by omega) _ _ _ _ _ _⟩
            · rw [heap_setChan_ne _ _ _ _ _ _ _ _ (by omega)]; exact HR.out
            · by_cases e : q = x
              · subst e
                refine ⟨s + 1, ?_⟩
                rw [Conc.heap_setChan _ _ _ _ _ _ _ _ (by omega), buck_yes hlt (by omega) HX.out]
                simp
              · obtain ⟨s', hs'⟩ := HCH.out q hq
                refine ⟨s', ?_⟩
                rw [heap_setChan_ne _ _ _ _ _ _ _ _ (by omega), buck_no (by omega) (by rw [HX.out]; omega)]
                exact hs'
          case measure => simp [intOf]; omega
        · have hn' : n = zs.length := by omega
          subst hn'
          obtain ⟨W, hW⟩ : ∃ W : World, W = wr := ⟨_, rfl⟩
          subst hW
          clear hrow hsz hch hbr
          go_wp2_with (at_make; refine wpList_make_own _ rfl (.const (.int .i64 0)) (.tmp 46) _ rfl W.heap.size 3 i0 (.int .i64 0) 1 Try.underlying22 hi0 hz0 hz1 _ _ _ _ rfl rfl rfl (by rw [hz2]; omega) (by unfold maxLen; omega) (Nat.le_refl _) ?_)
          intro w2 hown hg2
          have hS := HS.out
          have HG := Lib.hid hg2
          have hst : w2.heap[w.heap.size]? = some (.cells (chanRow C j j).toArray 55 (0, 0)) ∧ (∀ q, 0 ≤ q → q < j → ∃ s, w2.heap[C + q]? = some (.chan zs.length ((buck zs bs q zs.length).map (Value.int .i64)).toArray false s 0 false)) ∧ Below w.heap.size w w2 := by
            refine ⟨by rw [hg2.block _ (by omega) (by simp)]; exact HR.out, fun q _ hq => ?_, HBR.out.grown hg2 HBR.out.size (by simp)⟩
            rw [hg2.block _ (by omega) (by simp)]; exact HCH.out q hq
          have HST := Lib.hid hst
          have hW : C + j ≤ W.heap.size := by omega
          clear hg2 hst hS HS HR HCH HBR
          go_wp2
          go_loopw [11, 50] (fun v i wr => ∃ (b : Nat) (A : Option Addr) (c : Nat), b ≤ j ∧ i = .int .i64 b ∧ v = .slice A (passL zs bs b).length c ∧ wr.ownsRow W.heap.size 3 1 (.slice A (passL zs bs b).length c) (passL zs bs b).length ((passL zs bs b).map (Value.int .i64)) ∧
              wr.heap[w.heap.size]? = some (.cells (chanRow C j j).toArray 55 (0, 0)) ∧ (∀ q, b ≤ q → q < j → ∃ s, wr.heap[C + q]? = some (.chan zs.length ((buck zs bs q zs.length).map (Value.int .i64)).toArray false s 0 false)) ∧ Below w.heap.size w wr ∧ W.heap.size ≤ wr.heap.size) (fun _ i _ => j - (intOf i).toNat)
          case atStart => exact ⟨0, _, _, by omega, rfl, rfl, hown, HST.out.1, HST.out.2.1, HST.out.2.2, HG.out.size⟩
          case round =>
            clear HST hown HG
            obtain ⟨b, A1, c1, hbj, rfl, rfl, hown, hrow, hch, hbr, hsW⟩ := hrel
            by_cases hlt : b < j
            · obtain ⟨s, hcb⟩ := hch b (Nat.le_refl _) hlt
              have hat : wr.cell? ⟨w.heap.size, b, none⟩ = some (.chan (some (C + b))) := by
                rw [cell_of_row _ _ b _ _ _ hrow]
                have := chanRow_get (C := C) (i := j) hlt
                rw [if_pos hlt] at this
                simpa using this
              have hcl : ∀ ats ty, (Builtin.close_ ats ty #[.chan (some (C + b))]).run Try.prog wr = .ok (.tuple #[]) (wr.setChan (C + b) zs.length ((buck zs bs b zs.length).map (Value.int .i64)).toArray true s 0 false) := fun ats ty => run_close_open ats ty hcb
              have hpl := passL_len zs bs b
              have hpl2 : (passL zs bs b).length ≤ 36 := Nat.le_trans hpl (Nat.le_trans (Nat.mul_le_mul (show b ≤ 4 by omega) hl) (by decide))
              have hbl := buck_len zs bs b zs.length
              have hnx : passL zs bs (b + 1) = passL zs bs b ++ buck zs bs b zs.length := rfl
              obtain ⟨pre, hpre⟩ : ∃ pre, passL zs bs b = pre := ⟨_, rfl⟩
              obtain ⟨bu, hbu⟩ : ∃ bu, buck zs bs b zs.length = bu := ⟨_, rfl⟩
              rw [hpre] at hown hpl2 hnx ⊢
              rw [hbu] at hcl hcb hbl hnx
              have hclosed : (wr.setChan (C + b) zs.length (bu.map (Value.int .i64)).toArray true s 0 false).heap[C + b]? = some (.chan zs.length ((bu.drop 0).map (Value.int .i64)).toArray true s 0 false) := Conc.heap_setChan _ _ _ _ _ _ _ _ (by omega)
              have hown1 : (wr.setChan (C + b) zs.length (bu.map (Value.int .i64)).toArray true s 0 false).ownsRow W.heap.size 3 1 (.slice A1 pre.length c1) pre.length (pre.map (Value.int .i64)) := by
                refine hown.kept (row := some (C + b)) ⟨rfl, rfl, rfl, by rw [Conc.size_setChan]; exact Nat.le_refl _, fun i _ hne => heap_setChan_ne _ _ _ _ _ _ _ _ (fun e => hne (by rw [e]))⟩ (own_ne hown (by omega))
              have HNX := Lib.hid hnx
              have HO := Lib.hid hown1
              have HCL := Lib.hid hclosed
              have HCH := Lib.hid hch
              have HROW := Lib.hid hrow
              have HBR := Lib.hid hbr
              clear hpre hbu hcb hown hrow hch hbr hpl hnx hown1 hclosed
              go_wp2
              obtain ⟨Z, hZ⟩ : ∃ Z : World, wr.setChan (C + b) zs.length (bu.map (Value.int .i64)).toArray true s 0 false = Z := ⟨_, rfl⟩
              have hZ1 : Z.heap[w.heap.size]? = some (.cells (chanRow C j j).toArray 55 (0, 0)) := by rw [← hZ, heap_setChan_ne _ _ _ _ _ _ _ _ (by omega)]; exact HROW.out
              have hZ2 : ∀ q, b + 1 ≤ q → q < j → ∃ s, Z.heap[C + q]? = some (.chan zs.length ((buck zs bs q zs.length).map (Value.int .i64)).toArray false s 0 false) := fun q hq1 hq2 => by
                obtain ⟨s', hs'⟩ := HCH.out q (by omega) hq2
                exact ⟨s', by rw [← hZ, heap_setChan_ne _ _ _ _ _ _ _ _ (by omega)]; exact hs'⟩
              have hZ3 : Below w.heap.size w Z := by rw [← hZ]; exact Conc.below_setChan HBR.out (by omega) _ _ _ _ _ _
              have hZ4 : W.heap.size ≤ Z.heap.size := by rw [← hZ, Conc.size_setChan]; exact hsW
              have HO1 := HO.out
              have HC1 := HCL.out
              rw [hZ] at HO1 HC1 ⊢
              have HZ1 := Lib.hid hZ1
              have HZ2 := Lib.hid hZ2
              have HZ3 := Lib.hid hZ3
              have HO2 := Lib.hid HO1
              have HC2 := Lib.hid HC1
              clear HO1 HC1 hZ hZ1 hZ2 hZ3 HO HCL HCH HROW HBR hsW hcl hat
              go_loopw [11] (fun v wr => ∃ (m : Nat) (A : Option Addr) (c r : Nat), m ≤ bu.length ∧ v = .slice A (pre ++ bu.take m).length c ∧ wr.ownsRow W.heap.size 3 1 (.slice A (pre ++ bu.take m).length c) (pre ++ bu.take m).length ((pre ++ bu.take m).map (Value.int .i64)) ∧
                  wr.heap[C + b]? = some (.chan zs.length ((bu.drop m).map (Value.int .i64)).toArray true s r false) ∧ wr.heap[w.heap.size]? = some (.cells (chanRow C j j).toArray 55 (0, 0)) ∧
                  (∀ q, b + 1 ≤ q → q < j → ∃ s, wr.heap[C + q]? = some (.chan zs.length ((buck zs bs q zs.length).map (Value.int .i64)).toArray false s 0 false)) ∧ Below w.heap.size w wr ∧ W.heap.size ≤ wr.heap.size)
                (fun v _ => pre.length + bu.length - (match v with | .slice _ l _ => l | _ => 0))
              case atStart => exact ⟨0, A1, c1, 0, by omega, by simp, by simpa using HO2.out, HC2.out, HZ1.out, HZ2.out, HZ3.out, hZ4⟩
              case round =>
                clear HO2 HC2 HZ1 HZ2 HZ3 hZ4
                obtain ⟨m, A2, c2, r, hm, rfl, hown, hcb, hrow, hch, hbr, hsW⟩ := hrel
                have HROW := Lib.hid hrow
                have HCH := Lib.hid hch
                have HBR := Lib.hid hbr
                have HCB := Lib.hid hcb
                clear hrow hch hbr hcb
                by_cases hml : m < bu.length
                · have hdr : bu.drop m = bu[m] :: bu.drop (m + 1) := List.drop_eq_getElem_cons hml
                  have hcb := HCB.out
                  rw [hdr] at hcb
                  have htk : bu.take (m + 1) = bu.take m ++ [bu[m]] := List.take_succ_eq_append_getElem hml
                  obtain ⟨x, hx⟩ : ∃ x, bu[m] = x := ⟨_, rfl⟩
                  obtain ⟨t, ht⟩ : ∃ t, bu.drop (m + 1) = t := ⟨_, rfl⟩
                  rw [hx, ht] at hcb
                  rw [hx] at htk
                  have HCB1 := Lib.hid hcb
                  have HTK := Lib.hid htk
                  have HT := Lib.hid ht
                  have hlen : (pre ++ bu.take m).length ≤ 1000 := by rw [List.length_append, List.length_take]; omega
                  obtain ⟨cur, hcur⟩ : ∃ cur, pre ++ bu.take m = cur := ⟨_, rfl⟩
                  have hnew : pre ++ bu.take (m + 1) = cur ++ [x] := by rw [htk, ← hcur, List.append_assoc]
                  have HN := Lib.hid hnew
                  have HCUR := Lib.hid hcur
                  rw [hcur] at hown hlen ⊢
                  clear hdr hcb htk hx ht hcur hnew
                  go_upto_region 18 with fail
                  refine sem_region ?_
                  show SemOps _ _ _ [0, 1] _ _
                  refine sem_recv (c := C + b) (cap := zs.length) (z := .int .i64 0) true rfl rfl (by simp [go_sem, Conc.rcase]) HCB1.out (by simp) ?_
                  rw [show (((x :: t).map (Value.int .i64)).toArray).extract 1 (((x :: t).map (Value.int .i64)).toArray).size = (t.map (Value.int .i64)).toArray by simp; rw [List.take_of_length_le (by simp)]]
                  simp only [Conc.got]
                  iterate 1 (refine sem_op rfl rfl (fun K hK => ?_); go_simp; refine hK _ _ ?_; clear hK K)
                  refine sem_nil ?_
                  go_simp
                  have hown1 : (wr.setChan (C + b) zs.length (t.map (Value.int .i64)).toArray true s (r + 1) false).ownsRow W.heap.size 3 1 (.slice A2 cur.length c2) cur.length (cur.map (Value.int .i64)) :=
                    hown.kept (row := some (C + b)) ⟨rfl, rfl, rfl, by rw [Conc.size_setChan]; exact Nat.le_refl _, fun i _ hne => heap_setChan_ne _ _ _ _ _ _ _ _ (fun e => hne (by rw [e]))⟩ (own_ne hown (by omega))
                  have hsW1 : W.heap.size ≤ (wr.setChan (C + b) zs.length (t.map (Value.int .i64)).toArray true s (r + 1) false).heap.size := by rw [Conc.size_setChan]; exact hsW
                  go_wp2_with (at_builtin; refine wpList_push rfl (.tmp 59) (.tmp 61) 22 rfl i0 (.int .i64 0) 8 Try.underlying22 hi0 hz0 hz1 hz2 rfl (by decide) _ _ rfl hown1 [.int .i64 x] rfl rfl (by simp [Value.oneCell']) (by omega) (by omega) hsW1 ?_)
                  intro A' c' w3 hown3 hg3
                  have hne : ∀ q, (Value.slice A2 cur.length c2).ownBlock = some q → W.heap.size ≤ q := fun q hq => (hown1.lt _ hq).1
                  have hfar : ∀ q, q < W.heap.size → q ≠ C + b → w3.heap[q]? = wr.heap[q]? := fun q hq hqb => by
                    rw [hg3.block q (by rw [Conc.size_setChan]; omega) (fun e => by have := hne q e.symm; omega), heap_setChan_ne _ _ _ _ _ _ _ _ hqb]
                  have hcb3 : w3.heap[C + b]? = some (.chan zs.length (t.map (Value.int .i64)).toArray true s (r + 1) false) := by
                    rw [hg3.block (C + b) (by rw [Conc.size_setChan]; omega) (fun e => by have := hne _ e.symm; omega)]
                    exact Conc.heap_setChan _ _ _ _ _ _ _ _ (by omega)
                  have hb3 : Below w.heap.size w w3 := (Conc.below_setChan HBR.out (by omega) _ _ _ _ _ _).grown hg3 (by rw [Conc.size_setChan]; omega) (fun i hi => by have := hne i hi; omega)
                  have hs3 : W.heap.size ≤ w3.heap.size := Nat.le_trans hsW1 hg3.size
                  have HF := Lib.hid hfar
                  have HC3 := Lib.hid hcb3
                  clear hfar hcb3 hne hown1 hsW1 hg3 hown
                  go_wp2
                  go_roundw
                  case rel =>
                    refine ⟨m + 1, A', c', r + 1, by omega, by rw [HN.out]; simp, by rw [HN.out]; simpa using hown3, by rw [HT.out]; exact HC3.out, ?_, fun q hq1 hq2 => ?_, hb3, hs3⟩
                    · rw [HF.out _ (by omega) (by omega)]; exact HROW.out
                    · rw [HF.out _ (by omega) (by omega)]; exact HCH.out q hq1 hq2
                  case measure =>
                    have := congrArg List.length HCUR.out
                    simp at this ⊢
                    omega
                · have hm' : m = bu.length := by omega
                  subst hm'
                  have hcb := HCB.out
                  rw [List.drop_length] at hcb
                  have HCB1 := Lib.hid hcb
                  have htk : pre ++ bu.take bu.length = passL zs bs (b + 1) := by rw [List.take_length, HNX.out]
                  rw [htk] at hown ⊢
                  clear hcb htk
                  go_upto_region 18 with fail
                  refine sem_region ?_
                  show SemOps _ _ _ [0, 1] _ _
                  refine sem_recv_shut (c := C + b) (cap := zs.length) (z := .int .i64 0) true rfl rfl (by simp [go_sem, Conc.rcase]) HCB1.out ?_
                  simp only [Conc.got]
                  iterate 1 (refine sem_op rfl rfl (fun K hK => ?_); go_simp; refine hK _ _ ?_; clear hK K)
                  refine sem_nil ?_
                  go_simp
                  go_wp2
                  go_roundw
                  case rel => exact ⟨b + 1, A2, c2, by omega, by go_num, rfl, hown, HROW.out, HCH.out, HBR.out, hsW⟩
                  case measure => simp [intOf]; omega
            · have hb' : b = j := by omega
              subst hb'
              go_wp2
              go_ret
              have hcap := own_cap hown
              obtain ⟨A2, c2, hv, _, ho⟩ := own_of_row hown
              simp only [Value.slice.injEq] at hv
              obtain ⟨rfl, _, rfl⟩ := hv
              exact ⟨_, _, rfl, hcap, ho.less (by omega), hbr⟩
end Go.Proofs.Ytdgdlmpmoafkgaa
