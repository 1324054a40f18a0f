/- impl.travel of the frugal. No condition. -/
import Derived.Test.YtimbkclhkepgfaaKg
namespace Go.Proofs.Ytimbkclhkepgfaa
open Go.RowKit

def iterW (cs : List Coach) (t : List Int) : Nat → List Int
  | 0 => t
  | n + 1 => cs.foldl (takeE (iterW cs t n)) (iterW cs t n)
theorem iterW_times {cs : List Coach} (hok : ∀ c ∈ cs, c.Ok) {t : List Int} (h : Times t) (n : Nat) : Times (iterW cs t n) := by
  induction n with
  | zero => exact h
  | succ n ih => exact foldW_times hok ih
theorem iterW_with (cs : List Coach) (s τ : Int) (n : Nat) : iterW cs (onlyT s τ) n = withT cs s τ n := by
  induction n with
  | zero => rfl
  | succ n ih => simp only [iterW, withT, ih]
theorem T5.far {w : World} {r b k j : Nat} {t : List Int} (h : T5 w r k t) (hb : b ≠ r) (v : Value) : T5 (w.setCell ⟨b, j, none⟩ v) r k t :=
  h.apart (g_set (World.grownBy.refl w (some b)) j v) (fun i hi => by injection hi with hi; omega)
/-- Five stores. -/
def put5 (w : World) (b : Nat) (x0 x1 x2 x3 x4 : Int) : World := ((((w.setCell ⟨b, 1, none⟩ (.int .i64 x0)).setCell ⟨b, 2, none⟩ (.int .i64 x1)).setCell ⟨b, 3, none⟩ (.int .i64 x2)).setCell ⟨b, 4, none⟩ (.int .i64 x3)).setCell ⟨b, 5, none⟩ (.int .i64 x4)
theorem T5.put5 {w : World} {b : Nat} {a : List Int} (h : T5 w b 1 a) (hl : a.length = 5) (x0 x1 x2 x3 x4 : Int) : T5 (put5 w b x0 x1 x2 x3 x4) b 1 [x0, x1, x2, x3, x4] := by
  obtain ⟨y0, y1, y2, y3, y4, rfl⟩ := five_of hl
  exact ((((h.put rfl 0 x0).put rfl 1 x1).put rfl 2 x2).put rfl 3 x3).put rfl 4 x4
theorem T5.put5o {w : World} {b : Nat} {t : List Int} (h : T5 w b 6 t) (x0 x1 x2 x3 x4 : Int) : T5 (Go.Proofs.Ytimbkclhkepgfaa.put5 w b x0 x1 x2 x3 x4) b 6 t :=
  ((((h.other 1 _ (fun i hi => by omega)).other 2 _ (fun i hi => by omega)).other 3 _ (fun i hi => by omega)).other 4 _ (fun i hi => by omega)).other 5 _ (fun i hi => by omega)
theorem T5.put5f {w : World} {b r k : Nat} {t : List Int} (h : T5 w r k t) (hb : b ≠ r) (x0 x1 x2 x3 x4 : Int) : T5 (Go.Proofs.Ytimbkclhkepgfaa.put5 w b x0 x1 x2 x3 x4) r k t :=
  ((((h.far hb _).far hb _).far hb _).far hb _).far hb _
theorem put5_below {w w0 : World} {b B : Nat} (h : Below B w0 w) (hb : B ≤ b) (x0 x1 x2 x3 x4 : Int) : Below B w0 (put5 w b x0 x1 x2 x3 x4) :=
  ((((h.setCell (p := ⟨b, 1, none⟩) hb _).setCell (p := ⟨b, 2, none⟩) hb _).setCell (p := ⟨b, 3, none⟩) hb _).setCell (p := ⟨b, 4, none⟩) hb _).setCell (p := ⟨b, 5, none⟩) hb _
theorem put5_grown {a w : World} {b : Nat} (h : a.grownBy w (some b)) (x0 x1 x2 x3 x4 : Int) : a.grownBy (put5 w b x0 x1 x2 x3 x4) (some b) :=
  grown_set (grown_set (grown_set (grown_set (grown_set h 1 _) 2 _) 3 _) 4 _) 5 _

theorem own_kept {w w' : World} {base C b : Nat} {A : Option Addr} {xs : List Value} (h : Own w base C A xs) (hC : C ≤ w.heap.size) (hCb : C ≤ b) (hg : w.grownBy w' (some b)) : Own w' base C A xs := by
  rcases h with h | ⟨b', o', rfl, h0, hlt, hc, hf⟩
  · exact .inl h
  · have hb := hg.block b' (by omega) (fun e => by injection e with e; omega)
    exact .inr ⟨b', o', rfl, h0, hlt, fun j u hu => (World.cell?_of_block (a := ⟨b', o' + j, none⟩) hb).trans (hc j u hu), fun h j => (World.frozen?_of_block (a := ⟨b', j, none⟩) hb).trans (hf h j)⟩

def TravF (w : World) (B : Nat) (cs : List Coach) (t : List Int) (N : Nat) (e : Ending) (w' : World) : Prop :=
  e = .returned (aggT (iterW cs t N)) ∧ Below B w w'
set_option maxRecDepth 100000 in
set_option maxHeartbeats 8000000 in
theorem travelF (A : Option Addr) (n c b base C B N : Nat) (a0 t : List Int) (cs : List Coach) (w : World) (hn : cs.length = n) (hn10 : n ≤ 10) (hN : N ≤ 10) (ho : Own w (base + 1) C A (flatC cs)) (hCb : C ≤ b) (hok : ∀ c ∈ cs, c.Ok) (hr : w.cell? ⟨b, 0, none⟩ = some (.int .i64 N)) (h1 : T5 w b 1 a0) (ha0 : Times a0) (h5 : T5 w b 6 t) (ht : Times t) (hBb : B ≤ b) :
    Calls Try.prog 23 #[.slice A n c, .iface 52 (.pointer (some ⟨b, 0, none⟩))] w (TravF w B cs t N) := by
  have hmt := fun (W : World) => methodT_frugal b W
  have ha1 := as_frugal_frugal
  have ha2 := as_frugal_early
  have ha3 := as_frugal_late
  have HN := Lib.hid hn
  have HOK := Lib.hid hok
  have HT := Lib.hid ht
  have hbw := h5.lt
  have hw1 : Below w.heap.size w (w.alloc (.cells #[.int .i64 0, .int .i64 0, .int .i64 0, .int .i64 0, .int .i64 0] 46)) := (Below.refl _ _).alloc (Nat.le_refl _) _
  have hs1 : (w.alloc (.cells #[.int .i64 0, .int .i64 0, .int .i64 0, .int .i64 0, .int .i64 0] 46)).heap.size = w.heap.size + 1 := by simp
  obtain ⟨w1, hwe⟩ : ∃ w1, w.alloc (.cells #[.int .i64 0, .int .i64 0, .int .i64 0, .int .i64 0, .int .i64 0] 46) = w1 := ⟨_, rfl⟩
  have hR := t5_new w
  rw [hwe] at hw1 hs1 hR
  have HST := Lib.hid (show Own w1 (base + 1) C A (flatC cs) ∧ (∃ a, Times a ∧ T5 w1 b 1 a) ∧ T5 w1 b 6 (iterW cs t 0) ∧ T5 w1 w.heap.size 0 [0, 0, 0, 0, 0] ∧ Below B w w1 ∧ w.heap.size < w1.heap.size from ⟨ho.below (hw1.mono (by omega)), ⟨a0, ha0, h1.keep hw1⟩, h5.keep hw1, hR, hw1.mono (by omega), by omega⟩)
  have HWE := Lib.hid hwe
  clear hn hok ht h5 h1 ho hw1 hR ha0 hwe hs1
  go_enter Try.func23, Try.ntmps23
  go_wp2
  go_loopw [36] (fun v wr => ∃ i : Nat, i ≤ N ∧ v = .int .i64 i ∧ Own wr (base + 1) C A (flatC cs) ∧ (∃ a, Times a ∧ T5 wr b 1 a) ∧ T5 wr b 6 (iterW cs t i) ∧ T5 wr w.heap.size 0 [0, 0, 0, 0, 0] ∧ Below B w wr ∧ w.heap.size < wr.heap.size) (fun v _ => N - (intOf v).toNat)
  case atStart => exact ⟨0, by omega, rfl, by rw [HWE.out]; exact HST.out⟩
  case round =>
    obtain ⟨i, hi, rfl, hoc, ⟨a, hta, h1⟩, h6, hR, hbel, hzr⟩ := hrel
    clear HST HWE
    have HOC := Lib.hid hoc
    have HR := Lib.hid hR
    have HBL := Lib.hid hbel
    have hTi := iterW_times HOK.out HT.out i
    obtain ⟨x0, x1, x2, x3, x4, hx⟩ := five_of hTi.len
    have HX := Lib.hid hx
    rw [hx] at h6 hTi
    have HT6 := Lib.hid h6
    have HTI := Lib.hid hTi
    have c6 : wr.cell? ⟨b, 6, none⟩ = some (.int .i64 x0) := h6.cell 0 (by omega)
    have c7 : wr.cell? ⟨b, 7, none⟩ = some (.int .i64 x1) := h6.cell 1 (by omega)
    have c8 : wr.cell? ⟨b, 8, none⟩ = some (.int .i64 x2) := h6.cell 2 (by omega)
    have c9 : wr.cell? ⟨b, 9, none⟩ = some (.int .i64 x3) := h6.cell 3 (by omega)
    have c10 : wr.cell? ⟨b, 10, none⟩ = some (.int .i64 x4) := h6.cell 4 (by omega)
    have hbr := h6.lt
    clear hoc hR hbel hx
    by_cases hlt : i < N
    · obtain ⟨y0, y1, y2, y3, y4, hy⟩ := five_of hta.len
      rw [hy] at h1
      have c1 : wr.cell? ⟨b, 1, none⟩ = some (.int .i64 y0) := h1.cell 0 (by omega)
      have c2 : wr.cell? ⟨b, 2, none⟩ = some (.int .i64 y1) := h1.cell 1 (by omega)
      have c3 : wr.cell? ⟨b, 3, none⟩ = some (.int .i64 y2) := h1.cell 2 (by omega)
      have c4 : wr.cell? ⟨b, 4, none⟩ = some (.int .i64 y3) := h1.cell 3 (by omega)
      have c5 : wr.cell? ⟨b, 5, none⟩ = some (.int .i64 y4) := h1.cell 4 (by omega)
      have f1 := h1.froz 1
      have f2 := h1.froz 2
      have f3 := h1.froz 3
      have f4 := h1.froz 4
      have f5 := h1.froz 5
      have hgp := put5_grown (World.grownBy.refl wr (some b)) x0 x1 x2 x3 x4
      have HTK := Lib.hid (takeAllF A n c b [x0, x1, x2, x3, x4] [x0, x1, x2, x3, x4] cs (put5 wr b x0 x1 x2 x3 x4) HN.out hn10 ((own_kept HOC.out (by omega) hCb hgp).row.more (by have := hgp.size; omega)) (own_ne_of HOC.out hCb) HOK.out (h1.put5 rfl x0 x1 x2 x3 x4) (h6.put5o x0 x1 x2 x3 x4) hTi hTi)
      have HR5 := Lib.hid (HR.out.put5f (b := b) (by omega) x0 x1 x2 x3 x4)
      have HB5 := Lib.hid (put5_below HBL.out hBb x0 x1 x2 x3 x4)
      have HO5 := Lib.hid (own_kept HOC.out (by omega) hCb hgp)
      have hz5 := hgp.size
      clear h1 h6 hTi hta hy hgp
      go_wp2_with fail
      refine HTK.out.mono ?_
      rintro e w5 ⟨rfl, k1, k6, hg5⟩
      have hz6 := hg5.size
      have HF := Lib.hid (show Own w5 (base + 1) C A (flatC cs) ∧ (∃ a, Times a ∧ T5 w5 b 1 a) ∧ T5 w5 b 6 (iterW cs t (i + 1)) ∧ T5 w5 w.heap.size 0 [0, 0, 0, 0, 0] ∧ Below B w w5 ∧ w.heap.size < w5.heap.size from ⟨own_kept HO5.out (by omega) hCb hg5, ⟨_, HTI.out, k1⟩, by rw [iterW, HX.out]; exact k6, HR5.out.apart hg5 (fun i hi => by injection hi with hi; omega), HB5.out.grown hg5 (by omega) (fun i hi => by injection hi with hi; omega), by omega⟩)
      clear k1 k6 hg5 c1 c2 c3 c4 c5 c6 c7 c8 c9 c10 f1 f2 f3 f4 f5 hz5 hz6
      go_wp2
      go_roundw
      case rel => exact ⟨i + 1, by omega, by go_num, HF.out⟩
      case measure => simp [intOf]; omega
    · have hiN : i = N := by omega
      have HTM := Lib.hid (show Calls Try.prog 76 #[.pointer (some ⟨b, 0, none⟩)] wr fun e w' => e = .returned (.agg #[.int .i64 x0, .int .i64 x1, .int .i64 x2, .int .i64 x3, .int .i64 x4]) ∧ Below wr.heap.size wr w' from times_frugal b _ wr h6 rfl)
      clear h1 h6 hTi hta c6 c7 c8 c9 c10
      go_wp2_with fail
      refine HTM.out.mono ?_
      rintro e w4 ⟨rfl, hb4⟩
      have hr4 := HR.out.keep hb4
      have r0 : w4.cell? ⟨w.heap.size, 0, none⟩ = some (.int .i64 0) := hr4.cell 0 (by omega)
      have r1 : w4.cell? ⟨w.heap.size, 1, none⟩ = some (.int .i64 0) := hr4.cell 1 (by omega)
      have r2 : w4.cell? ⟨w.heap.size, 2, none⟩ = some (.int .i64 0) := hr4.cell 2 (by omega)
      have r3 : w4.cell? ⟨w.heap.size, 3, none⟩ = some (.int .i64 0) := hr4.cell 3 (by omega)
      have r4 : w4.cell? ⟨w.heap.size, 4, none⟩ = some (.int .i64 0) := hr4.cell 4 (by omega)
      have s0 := hr4.froz 0
      have s1 := hr4.froz 1
      have s2 := hr4.froz 2
      have s3 := hr4.froz 3
      have s4 := hr4.froz 4
      have HB4 := Lib.hid (show Below B w w4 from HBL.out.trans (hb4.mono (by omega)))
      have HV := Lib.hid (show Value.agg #[.int .i64 x0, .int .i64 x1, .int .i64 x2, .int .i64 x3, .int .i64 x4] = aggT (iterW cs t N) by rw [← hiN, HX.out]; rfl)
      clear hb4 hr4 hiN
      go_wp2
      refine bodyPost_ret (v := .agg #[.int .i64 x0, .int .i64 x1, .int .i64 x2, .int .i64 x3, .int .i64 x4]) (by simp [results, Try.results23, go_sem, r0, r1, r2, r3, r4]) rfl ?_
      refine ⟨by rw [HV.out], ?_⟩
      exact ((((HB4.out.setCell (p := ⟨w.heap.size, 0, none⟩) (by show B ≤ w.heap.size; omega) _).setCell (p := ⟨w.heap.size, 1, none⟩) (by show B ≤ w.heap.size; omega) _).setCell (p := ⟨w.heap.size, 2, none⟩) (by show B ≤ w.heap.size; omega) _).setCell (p := ⟨w.heap.size, 3, none⟩) (by show B ≤ w.heap.size; omega) _).setCell (p := ⟨w.heap.size, 4, none⟩) (by show B ≤ w.heap.size; omega) _
end Go.Proofs.Ytimbkclhkepgfaa
