/- impl.travel. No condition. -/
import Derived.Test.YtimbkclhkepgfaaKf
namespace Go.Proofs.Ytimbkclhkepgfaa
open Go.RowKit

theorem own_tight {w : World} {base B B' b o : Nat} {xs : List Value} (h : Own w base B (some ⟨b, o, none⟩) xs) (hb : b < B') : Own w base B' (some ⟨b, o, none⟩) xs := by
  rcases h with h | ⟨b', o', e, h0, _, hc⟩
  · exact .inl h
  · simp only [Option.some.injEq, Addr.mk.injEq, and_true] at e
    obtain ⟨rfl, rfl⟩ := e
    exact .inr ⟨b, o, rfl, h0, hb, hc⟩
/-- Only a row from base on and below C was written, and what is new. -/
def WrA (w : World) (base C : Nat) (w' : World) : Prop := ∃ row : Option Nat, w.grownBy w' row ∧ ∀ i, row = some i → base ≤ i ∧ i < C
theorem WrA.below {w w' : World} {base B C : Nat} (h : WrA w base C w') (hB : B ≤ base) (hBw : B ≤ w.heap.size) : Below B w w' := by
  obtain ⟨row, h1, h2⟩ := h
  exact (Below.refl _ _).grown h1 hBw (fun i hi => by have := (h2 i hi).1; omega)
theorem WrA.t5 {w w' : World} {base b k C : Nat} {t : List Int} (h : WrA w base C w') (hb : C ≤ b) (ht : T5 w b k t) : T5 w' b k t := by
  obtain ⟨row, h1, h2⟩ := h
  exact ht.apart h1 (fun i hi => by have := (h2 i hi).2; omega)
theorem WrA.size {w w' : World} {base C : Nat} (h : WrA w base C w') : w.heap.size ≤ w'.heap.size := by obtain ⟨_, h1, _⟩ := h; exact h1.size
def SortA (w : World) (base C : Nat) (A : Option Addr) (cs : List Coach) (e : Ending) (w' : World) : Prop :=
  e = .returned (.tuple #[]) ∧ ∃ ds, ds.Perm cs ∧ ds.Pairwise (fun a b => a.lv ≤ b.lv) ∧ Own w' (base + 1) C A (flatC ds) ∧ WrA w base C w'
theorem sortFuncC_any (A : Option Addr) (n c base C : Nat) (cs : List Coach) (w : World) (ho : Own w (base + 1) C A (flatC cs)) (hC : C ≤ w.heap.size) (hn : cs.length = n) (h10 : n ≤ 10) :
    Calls Try.prog 32 #[.slice A n c, .func (.func 33) #[] #[]] w (SortA w base C A cs) := by
  subst hn
  by_cases h0 : cs = []
  · subst h0
    exact (sortFuncC_nil A c _ w).mono fun e w' ⟨he, hw⟩ => ⟨he, [], List.Perm.refl _, List.Pairwise.nil, .inl rfl, none, by rw [← hw]; exact World.grownBy.refl _ _, fun i hi => by cases hi⟩
  · have hp : 0 < cs.length := List.length_pos_iff.2 h0
    obtain ⟨b, o, rfl, hb, hbC, _⟩ := ho.open' (by omega) (by rw [flatC_length]; omega)
    exact (sortFuncC_some b o c base cs w (ho.more hC) hp h10).mono fun e w' ⟨he, ds, h1, h2, h3, h4⟩ => ⟨he, ds, h1, h2, own_tight h3 hbC, some b, h4, fun i hi => by injection hi with hi; subst hi; exact ⟨by omega, hbC⟩⟩
def RevA (w : World) (base C : Nat) (A : Option Addr) (cs : List Coach) (e : Ending) (w' : World) : Prop :=
  e = .returned (.tuple #[]) ∧ Own w' (base + 1) C A (flatC cs.reverse) ∧ WrA w base C w'
theorem reverseC_any (A : Option Addr) (n c base C : Nat) (cs : List Coach) (w : World) (ho : Own w (base + 1) C A (flatC cs)) (hC : C ≤ w.heap.size) (hn : cs.length = n) (h10 : n ≤ 10) :
    Calls Try.prog 35 #[.slice A n c] w (RevA w base C A cs) := by
  by_cases h0 : cs = []
  · subst h0
    obtain rfl : 0 = n := hn
    exact (reverseC_nil A c w).mono fun e w' ⟨he, hw⟩ => ⟨he, .inl rfl, none, by rw [← hw]; exact World.grownBy.refl _ _, fun i hi => by cases hi⟩
  · have hp : 0 < cs.length := List.length_pos_iff.2 h0
    obtain ⟨b, o, rfl, hb, hbC, _⟩ := ho.open' (by omega) (by rw [flatC_length]; omega)
    exact (reverseC_some b o c base n cs w (ho.more hC) hn (by omega) h10).mono fun e w' ⟨he, h3, h4⟩ => ⟨he, own_tight h3 hbC, some b, h4, fun i hi => by injection hi with hi; subst hi; exact ⟨by omega, hbC⟩⟩
theorem own_ne_of {w : World} {base C b : Nat} {A : Option Addr} {cs : List Coach} (ho : Own w base C A (flatC cs)) (hb : C ≤ b) : cs ≠ [] → ∀ g o, A = some ⟨g, o, none⟩ → g ≠ b := by
  intro h g o hA
  rcases ho with h2 | ⟨b', o', e, _, h2, _⟩
  · have h3 := flatC_length cs
    rw [h2] at h3
    have : 0 < cs.length := List.length_pos_iff.2 h
    simp at h3; omega
  · rw [hA] at e
    simp only [Option.some.injEq, Addr.mk.injEq, and_true] at e
    omega
theorem t5_new (w : World) : T5 (w.alloc (.cells #[.int .i64 0, .int .i64 0, .int .i64 0, .int .i64 0, .int .i64 0] 46)) w.heap.size 0 [0, 0, 0, 0, 0] := by
  refine ⟨by simp, fun i hi => ?_, fun j => frozen_of_row _ _ _ _ _ (heap_alloc_new w _)⟩
  rw [World.cell?_alloc_at _ _ _ _ rfl]
  obtain rfl | rfl | rfl | rfl | rfl : i = 0 ∨ i = 1 ∨ i = 2 ∨ i = 3 ∨ i = 4 := by omega
  all_goals rfl
theorem methodT_early (bb : Nat) (w : World) : (method 157 48 (.pointer (some ⟨bb, 0, none⟩)) "loop.example/lettersthatarrive/impl.times").run Try.prog w = .ok (72, .pointer (some ⟨bb, 0, none⟩)) w := by kernel_rfl
theorem methodT_frugal (bb : Nat) (w : World) : (method 157 52 (.pointer (some ⟨bb, 0, none⟩)) "loop.example/lettersthatarrive/impl.times").run Try.prog w = .ok (76, .pointer (some ⟨bb, 0, none⟩)) w := by kernel_rfl
theorem methodT_late (bb : Nat) (w : World) : (method 157 71 (.pointer (some ⟨bb, 0, none⟩)) "loop.example/lettersthatarrive/impl.times").run Try.prog w = .ok (78, .pointer (some ⟨bb, 0, none⟩)) w := by kernel_rfl
theorem as_early_early (v : Value) (w : World) : (Instr.typeAssert (.iface 48 v) 67 48 true).run Try.prog w = .ok (.tuple #[v, .bool true]) w := by kernel_rfl
theorem as_early_late (v : Value) (w : World) : (Instr.typeAssert (.iface 48 v) 67 71 true).run Try.prog w = .ok (.tuple #[.pointer none, .bool false]) w := by kernel_rfl
theorem as_early_frugal (v : Value) (w : World) : (Instr.typeAssert (.iface 48 v) 67 52 true).run Try.prog w = .ok (.tuple #[.pointer none, .bool false]) w := by kernel_rfl
theorem as_late_early (v : Value) (w : World) : (Instr.typeAssert (.iface 71 v) 67 48 true).run Try.prog w = .ok (.tuple #[.pointer none, .bool false]) w := by kernel_rfl
theorem as_late_late (v : Value) (w : World) : (Instr.typeAssert (.iface 71 v) 67 71 true).run Try.prog w = .ok (.tuple #[v, .bool true]) w := by kernel_rfl
theorem as_late_frugal (v : Value) (w : World) : (Instr.typeAssert (.iface 71 v) 67 52 true).run Try.prog w = .ok (.tuple #[.pointer none, .bool false]) w := by kernel_rfl
theorem as_frugal_early (v : Value) (w : World) : (Instr.typeAssert (.iface 52 v) 67 48 true).run Try.prog w = .ok (.tuple #[.pointer none, .bool false]) w := by kernel_rfl
theorem as_frugal_late (v : Value) (w : World) : (Instr.typeAssert (.iface 52 v) 67 71 true).run Try.prog w = .ok (.tuple #[.pointer none, .bool false]) w := by kernel_rfl
theorem as_frugal_frugal (v : Value) (w : World) : (Instr.typeAssert (.iface 52 v) 67 52 true).run Try.prog w = .ok (.tuple #[v, .bool true]) w := by kernel_rfl
/-- What travelling leaves: the times, told by the coaches in some order. -/
def TravE (w : World) (B : Nat) (cs : List Coach) (t : List Int) (e : Ending) (w' : World) : Prop :=
  ∃ ds : List Coach, ds.Perm cs ∧ ds.Pairwise (fun a b => a.lv ≤ b.lv) ∧ e = .returned (aggT (ds.foldl (fun t c => takeE t t c) t)) ∧ Below B w w'
set_option maxRecDepth 100000 in
set_option maxHeartbeats 8000000 in
theorem travelE (A : Option Addr) (n c b base C B : Nat) (t : List Int) (cs : List Coach) (w : World) (hn : cs.length = n) (hn10 : n ≤ 10) (ho : Own w (base + 1) C A (flatC cs)) (hCb : C ≤ b) (hok : ∀ c ∈ cs, c.Ok) (h5 : T5 w b 0 t) (ht : Times t) (hB : B ≤ base) (hBb : B ≤ b) :
    Calls Try.prog 23 #[.slice A n c, .iface 48 (.pointer (some ⟨b, 0, none⟩))] w (TravE w B cs t) := by
  have hmt := fun (W : World) => methodT_early b W
  have ha1 := as_early_early
  have HN := Lib.hid hn
  have HOK := Lib.hid hok
  have HT := Lib.hid ht
  have hbw := h5.lt
  have hw1 : Below w.heap.size w (w.alloc (.cells #[.int .i64 0, .int .i64 0, .int .i64 0, .int .i64 0, .int .i64 0] 46)) := (Below.refl _ _).alloc (Nat.le_refl _) _
  have hs1 : (w.alloc (.cells #[.int .i64 0, .int .i64 0, .int .i64 0, .int .i64 0, .int .i64 0] 46)).heap.size = w.heap.size + 1 := by simp
  have HS := Lib.hid (sortFuncC_any A n c base C cs _ (ho.below (hw1.mono (by omega))) (by rw [hs1]; omega) hn hn10)
  have H5 := Lib.hid (h5.keep hw1)
  have HW1 := Lib.hid hw1
  have HR := Lib.hid (t5_new w)
  have HS1 := Lib.hid hs1
  clear hn hok ht h5 ho hw1 hs1
  go_enter Try.func23, Try.ntmps23
  go_wp2_with fail
  refine HS.out.mono ?_
  rintro e w2 ⟨rfl, ds, hp, hs, ho2, hw2⟩
  have HP := Lib.hid hp
  have HSO := Lib.hid hs
  have H52 := Lib.hid (hw2.t5 (b := b) hCb H5.out)
  have HR2 := Lib.hid (hw2.t5 (b := w.heap.size) (by omega) HR.out)
  have HB2 := Lib.hid (show Below B w w2 from (HW1.out.mono (by omega)).trans (hw2.below hB (by rw [HS1.out]; omega)))
  have hz2 : w.heap.size < w2.heap.size := by have h1 := hw2.size; have h2 := HS1.out; omega
  have HT2 := Lib.hid (takeAllE A n c b t ds w2 (by rw [HP.out.length_eq, HN.out]) hn10 (ho2.row.more (by omega)) (own_ne_of ho2 hCb) (fun c hc => HOK.out c (HP.out.mem_iff.1 hc)) H52.out HT.out)
  clear hp hs ho2 hw2
  go_wp2_with fail
  refine HT2.out.mono ?_
  rintro e w3 ⟨rfl, h53, hg3⟩
  have hTf := foldE_times (cs := ds) (fun c hc => HOK.out c (HP.out.mem_iff.1 hc)) HT.out
  have HG3 := Lib.hid hg3
  obtain ⟨x0, x1, x2, x3, x4, hx⟩ := five_of hTf.len
  have HX := Lib.hid hx
  rw [hx] at h53
  have HTI := Lib.hid (show Calls Try.prog 72 #[.pointer (some ⟨b, 0, none⟩)] w3 fun e w' => e = .returned (.agg #[.int .i64 x0, .int .i64 x1, .int .i64 x2, .int .i64 x3, .int .i64 x4]) ∧ Below w3.heap.size w3 w' from times_early b _ w3 h53 rfl)
  have hr3 := HR2.out.apart hg3 (fun i hi => by injection hi with hi; omega)
  have hz3 := hg3.size
  have HR3 := Lib.hid hr3
  clear h53 hg3 hTf hx hr3
  go_wp2_with fail
  refine HTI.out.mono ?_
  rintro e w4 ⟨rfl, hb4⟩
  have hr4 := HR3.out.keep hb4
  have r0 : w4.cell? ⟨w.heap.size, 0, none⟩ = some (.int .i64 0) := hr4.cell 0 (by omega)
  have r1 : w4.cell? ⟨w.heap.size, 1, none⟩ = some (.int .i64 0) := hr4.cell 1 (by omega)
  have r2 : w4.cell? ⟨w.heap.size, 2, none⟩ = some (.int .i64 0) := hr4.cell 2 (by omega)
  have r3 : w4.cell? ⟨w.heap.size, 3, none⟩ = some (.int .i64 0) := hr4.cell 3 (by omega)
  have r4 : w4.cell? ⟨w.heap.size, 4, none⟩ = some (.int .i64 0) := hr4.cell 4 (by omega)
  have s0 := hr4.froz 0
  have s1 := hr4.froz 1
  have s2 := hr4.froz 2
  have s3 := hr4.froz 3
  have s4 := hr4.froz 4
  have HB4 := Lib.hid (show Below B w w4 from (HB2.out.grown HG3.out (by omega) (fun i hi => by injection hi with hi; omega)).trans (hb4.mono (by omega)))
  clear hb4 hr4
  go_wp2
  refine bodyPost_ret (v := .agg #[.int .i64 x0, .int .i64 x1, .int .i64 x2, .int .i64 x3, .int .i64 x4]) (by simp [results, Try.results23, go_sem, r0, r1, r2, r3, r4]) rfl ?_
  refine ⟨ds, HP.out, HSO.out, by rw [HX.out]; rfl, ?_⟩
  exact ((((HB4.out.setCell (p := ⟨w.heap.size, 0, none⟩) (by show B ≤ w.heap.size; omega) _).setCell (p := ⟨w.heap.size, 1, none⟩) (by show B ≤ w.heap.size; omega) _).setCell (p := ⟨w.heap.size, 2, none⟩) (by show B ≤ w.heap.size; omega) _).setCell (p := ⟨w.heap.size, 3, none⟩) (by show B ≤ w.heap.size; omega) _).setCell (p := ⟨w.heap.size, 4, none⟩) (by show B ≤ w.heap.size; omega) _
/-- What travelling leaves: the times, told by the coaches in some order. -/
def TravL (w : World) (B : Nat) (cs : List Coach) (t : List Int) (e : Ending) (w' : World) : Prop :=
  ∃ ds : List Coach, ds.Perm cs ∧ ds.Pairwise (fun a b => b.lv ≤ a.lv) ∧ e = .returned (aggT (ds.foldl takeL t)) ∧ Below B w w'
set_option maxRecDepth 100000 in
set_option maxHeartbeats 8000000 in
theorem travelL (A : Option Addr) (n c b base C B : Nat) (t : List Int) (cs : List Coach) (w : World) (hn : cs.length = n) (hn10 : n ≤ 10) (ho : Own w (base + 1) C A (flatC cs)) (hCb : C ≤ b) (hok : ∀ c ∈ cs, c.Ok) (h5 : T5 w b 0 t) (ht : Times t) (hB : B ≤ base) (hBb : B ≤ b) :
    Calls Try.prog 23 #[.slice A n c, .iface 71 (.pointer (some ⟨b, 0, none⟩))] w (TravL w B cs t) := by
  have hmt := fun (W : World) => methodT_late b W
  have ha1 := as_late_late
  have ha2 := as_late_early
  have HN := Lib.hid hn
  have HOK := Lib.hid hok
  have HT := Lib.hid ht
  have hbw := h5.lt
  have hw1 : Below w.heap.size w (w.alloc (.cells #[.int .i64 0, .int .i64 0, .int .i64 0, .int .i64 0, .int .i64 0] 46)) := (Below.refl _ _).alloc (Nat.le_refl _) _
  have hs1 : (w.alloc (.cells #[.int .i64 0, .int .i64 0, .int .i64 0, .int .i64 0, .int .i64 0] 46)).heap.size = w.heap.size + 1 := by simp
  have HS := Lib.hid (sortFuncC_any A n c base C cs _ (ho.below (hw1.mono (by omega))) (by rw [hs1]; omega) hn hn10)
  have H5 := Lib.hid (h5.keep hw1)
  have HW1 := Lib.hid hw1
  have HR := Lib.hid (t5_new w)
  have HS1 := Lib.hid hs1
  clear hn hok ht h5 ho hw1 hs1
  go_enter Try.func23, Try.ntmps23
  go_wp2_with fail
  refine HS.out.mono ?_
  rintro e w2 ⟨rfl, ds, hp, hs, ho2, hw2⟩
  have HP := Lib.hid hp
  have HSO := Lib.hid hs
  have H52 := Lib.hid (hw2.t5 (b := b) hCb H5.out)
  have HR2 := Lib.hid (hw2.t5 (b := w.heap.size) (by omega) HR.out)
  have HB2 := Lib.hid (show Below B w w2 from (HW1.out.mono (by omega)).trans (hw2.below hB (by rw [HS1.out]; omega)))
  have hz2 : w.heap.size < w2.heap.size := by have h1 := hw2.size; have h2 := HS1.out; omega
  have HV := Lib.hid (reverseC_any A n c base C ds w2 ho2 (by omega) (by rw [HP.out.length_eq, HN.out]) hn10)
  clear hp hs ho2 hw2
  go_wp2_with fail
  refine HV.out.mono ?_
  rintro e w2b ⟨rfl, ho3, hw3⟩
  have H52b := Lib.hid (hw3.t5 (b := b) hCb H52.out)
  have HR2b := Lib.hid (hw3.t5 (b := w.heap.size) (by omega) HR2.out)
  have HB2b := Lib.hid (HB2.out.trans (hw3.below hB (by omega)))
  have hz2b : w.heap.size < w2b.heap.size := by have h1 := hw3.size; omega
  have HT2 := Lib.hid (takeAllL A n c b t ds.reverse w2b (by rw [List.length_reverse, HP.out.length_eq, HN.out]) hn10 (ho3.row.more (by omega)) (own_ne_of ho3 hCb) (fun c hc => HOK.out c (HP.out.mem_iff.1 (List.mem_reverse.1 hc))) H52b.out HT.out)
  clear ho3 hw3 HR2 HB2 hz2
  have HR2 := HR2b
  have HB2 := HB2b
  have hz2 := hz2b
  go_wp2_with fail
  refine HT2.out.mono ?_
  rintro e w3 ⟨rfl, h53, hg3⟩
  have hTf := foldL_times (cs := ds.reverse) (fun c hc => HOK.out c (HP.out.mem_iff.1 (List.mem_reverse.1 hc))) HT.out
  have HG3 := Lib.hid hg3
  obtain ⟨x0, x1, x2, x3, x4, hx⟩ := five_of hTf.len
  have HX := Lib.hid hx
  rw [hx] at h53
  have HTI := Lib.hid (show Calls Try.prog 78 #[.pointer (some ⟨b, 0, none⟩)] w3 fun e w' => e = .returned (.agg #[.int .i64 x0, .int .i64 x1, .int .i64 x2, .int .i64 x3, .int .i64 x4]) ∧ Below w3.heap.size w3 w' from times_late b _ w3 h53 rfl)
  have hr3 := HR2.out.apart hg3 (fun i hi => by injection hi with hi; omega)
  have hz3 := hg3.size
  have HR3 := Lib.hid hr3
  clear h53 hg3 hTf hx hr3
  go_wp2_with fail
  refine HTI.out.mono ?_
  rintro e w4 ⟨rfl, hb4⟩
  have hr4 := HR3.out.keep hb4
  have r0 : w4.cell? ⟨w.heap.size, 0, none⟩ = some (.int .i64 0) := hr4.cell 0 (by omega)
  have r1 : w4.cell? ⟨w.heap.size, 1, none⟩ = some (.int .i64 0) := hr4.cell 1 (by omega)
  have r2 : w4.cell? ⟨w.heap.size, 2, none⟩ = some (.int .i64 0) := hr4.cell 2 (by omega)
  have r3 : w4.cell? ⟨w.heap.size, 3, none⟩ = some (.int .i64 0) := hr4.cell 3 (by omega)
  have r4 : w4.cell? ⟨w.heap.size, 4, none⟩ = some (.int .i64 0) := hr4.cell 4 (by omega)
  have s0 := hr4.froz 0
  have s1 := hr4.froz 1
  have s2 := hr4.froz 2
  have s3 := hr4.froz 3
  have s4 := hr4.froz 4
  have HB4 := Lib.hid (show Below B w w4 from (HB2.out.grown HG3.out (by omega) (fun i hi => by injection hi with hi; omega)).trans (hb4.mono (by omega)))
  clear hb4 hr4
  go_wp2
  refine bodyPost_ret (v := .agg #[.int .i64 x0, .int .i64 x1, .int .i64 x2, .int .i64 x3, .int .i64 x4]) (by simp [results, Try.results23, go_sem, r0, r1, r2, r3, r4]) rfl ?_
  refine ⟨ds.reverse, (List.reverse_perm ds).trans HP.out, List.pairwise_reverse.2 HSO.out, by rw [HX.out]; rfl, ?_⟩
  exact ((((HB4.out.setCell (p := ⟨w.heap.size, 0, none⟩) (by show B ≤ w.heap.size; omega) _).setCell (p := ⟨w.heap.size, 1, none⟩) (by show B ≤ w.heap.size; omega) _).setCell (p := ⟨w.heap.size, 2, none⟩) (by show B ≤ w.heap.size; omega) _).setCell (p := ⟨w.heap.size, 3, none⟩) (by show B ≤ w.heap.size; omega) _).setCell (p := ⟨w.heap.size, 4, none⟩) (by show B ≤ w.heap.size; omega) _
end Go.Proofs.Ytimbkclhkepgfaa
