/- FirstWaste, the program's side. No condition. -/
import Derived.Test.YtookdmdlpglbcabYb
namespace Go.Proofs.Ytookdmdlpglbcab
open Go.RowKit
open Go.Shelf
attribute [local go_sem] Oper.semAt_some

theorem keepsOthers_of_below {W W' : World} (h : Below W.heap.size W W') : KeepsOthers W W' := ⟨h.size, fun k _ hk _ => (h.block k (Array.getElem?_eq_some_iff.1 hk).1).trans hk⟩
theorem boxed_below {n : Nat} {W W' : World} {b : Nat} {t : TypeId} {x : Value} (h : Boxed W b t x) (hb : Below n W W') (hn : b < n) : Boxed W' b t x := (hb.block b hn).trans h
theorem Tab.below {n : Nat} {W W' : World} {b : Nat} {T : List Int} (h : Tab W b T) (hb : Below n W W') (hn : b < n) : Tab W' b T := (hb.block b hn).trans h
/-- Between two rounds. -/
def FwTab (w : World) (sv : Value) (g : Nat) (T : List Int) (x : Int) (W : World) : Prop :=
  (Boxed W w.heap.size 23 sv ∧ Boxed W (w.heap.size + 1) 3 (.int .i64 x) ∧ Tab W g T) ∧ Below w.heap.size w W
theorem fwTab_own {β : Type} (w : World) (sv : Value) (g : Nat) (T : List Int) (x : β → Int) {B : Nat} (hB : w.heap.size ≤ B) : OwnFrom B (fun (b : β) W => FwTab w sv g T (x b) W) :=
  OwnFrom.and (Own.from (fun _ _ _ _ hs hg hr => ⟨boxed_keptO hs.1 hg hr, boxed_keptO hs.2.1 hg hr, hs.2.2.keptO hg hr⟩) _) (ownFrom_below (Nat.le_refl _) hB)
theorem fwTab_below {w : World} {sv : Value} {g : Nat} {T : List Int} {x : Int} {W W' : World} (h : FwTab w sv g T x W) (hb : Below W.heap.size W W') : FwTab w sv g T x W' :=
  ⟨⟨boxed_below h.1.1 hb h.1.1.lt, boxed_below h.1.2.1 hb h.1.2.1.lt, h.1.2.2.below hb h.1.2.2.lt⟩, h.2.trans (hb.mono h.2.size)⟩
theorem fwTab_set {w : World} {sv : Value} {g : Nat} {T : List Int} {x : Int} {W : World} (h : FwTab w sv g T x W) (hg : w.heap.size + 1 < g) (y : Int) : FwTab w sv g T y (W.setCell ⟨w.heap.size + 1, 0, none⟩ (.int .i64 y)) :=
  ⟨⟨boxed_otherO h.1.1 _ (by omega), h.1.2.1.set _, h.1.2.2.other _ (by omega)⟩, h.2.setCell (p := ⟨w.heap.size + 1, 0, none⟩) (by simp) _⟩
theorem tab_newR (W : World) (T : List Int) : Tab (W.alloc (.cells (T.map (Value.int .i64)).toArray 42)) W.heap.size T := World.alloc_heap_new W _
theorem last_of_range {xs : List Nat} {f k x : Nat} {ys : List Nat} (h : xs ++ [x] = List.range' f k) (hy : ys = xs) : x + 1 = f + k ∧ ys = List.range' f (k - 1) := by
  subst hy
  cases k with
  | zero => simp at h
  | succ k =>
    rw [range'_last] at h
    have h1 := List.append_inj' h rfl
    simp at h1
    exact ⟨by omega, by simpa using h1.1⟩

theorem ownFrom_of {β : Type} {B : Nat} (p : β → Prop) : OwnFrom B (fun (b : β) (_ : World) => p b) := fun _ _ _ _ hs _ _ => hs
theorem loadVar_int {W : World} {a : Addr} {z : Int} (h : W.cell? a = some (.int .i64 z)) : (loadVar 3 a).run Try.prog W = .ok (.int .i64 z) W := by
  have ha : (isAgg 3).run Try.prog W = .ok false W := by
    unfold isAgg
    rw [Sem.run_bind, run_underlying Try.underlying3 W]
    rfl
  unfold loadVar
  rw [Sem.run_bind, ha]
  simp [go_sem, h]

theorem storeT_new {Z : Array Value} {T : List Int} (hsz : (Try.prog.info? 42).map (·.size) = some 141) (hZ : Z.size = 141) (hT : T.length = 141) (W : World) :
    (storeCells ⟨W.heap.size, 0, none⟩ (T.map (Value.int .i64))).run Try.prog (W.alloc (.cells Z 42)) = .ok () (W.alloc (.cells (T.map (Value.int .i64)).toArray 42)) := by
  have := run_storeCells_new (P := Try.prog) W 42 Z (T.map (Value.int .i64)).toArray (by rw [hsz]; simp [hT]) (by simp [hT, hZ]) (by simp [Value.oneCell'])
  simpa using this

set_option maxHeartbeats 4000000 in
theorem firstWaste_in (A : Option Addr) (c : Nat) (v : List Int) (w : World) (hr : Ints w w.heap.size A v) (hv : stampsB v = true) :
    CallsIn Fence.wide 8 Try.prog 17 #[.slice A v.length c] w fun e W' => e = .returned (.int .i64 (wasteV v)) ∧ Below w.heap.size w W' := by
  obtain ⟨hz, hsz⟩ := zero_of_info infoT
  obtain ⟨Z, hZ⟩ : ∃ Z : Array Value, Array.replicate 141 (.int .i64 0) = Z := ⟨_, rfl⟩
  rw [hZ] at hz
  have HV := Lib.hid hv
  have HZ := Lib.hid hZ
  have HSZ := Lib.hid hsz
  clear hZ hv hsz
  have h1 : 1 ≤ 8 := by omega
  have hro : Fence.wide.round = none := rfl
  refine callsIn_of_wp_marks Try.func17 rfl trivial ?_ hro
  simp only [Try.ntmps17, List.size_toArray, List.length_cons, List.length_nil, Nat.reduceAdd, Nat.reduceSub, Array.replicate_succ, Array.replicate_zero, List.push_toArray, List.append_toArray, List.nil_append, List.cons_append]
  obtain ⟨W1, hW1⟩ : ∃ W1, (w.alloc (.cells #[.slice A v.length c] 23)).alloc (.cells #[.int .i64 0] 3) = W1 := ⟨_, rfl⟩
  have hB1 : Below w.heap.size w W1 := by rw [← hW1]; exact (((Below.refl _ w).alloc (Nat.le_refl _) _).alloc (by simp) _)
  have hv12 : ∀ s ∈ v, 1 ≤ s ∧ s ≤ 12 := fun s hs => stamp_mem HV.out hs
  have hl4 : v.length ≤ 100 := by have := stampsB_len HV.out; omega
  have hr1 := hr.past hB1
  have HVA := Lib.hid (impVS_any A c v W1 hr1)
  rw [HV.out] at HVA
  have HF := Lib.hid (fewestOf_any A c v W1 hr1 hv12 hl4)
  have hZs : Z.size = 141 := by rw [← HZ.out, Array.size_replicate]
  have hcv : W1.cell? ⟨w.heap.size, 0, none⟩ = some (.slice A v.length c) := by rw [← hW1]; exact ((Boxed.new w 23 (.slice A v.length c)).alloc _).cell
  have hb1 : Boxed W1 w.heap.size 23 (.slice A v.length c) := by rw [← hW1]; exact (Boxed.new w 23 (.slice A v.length c)).alloc _
  have hb2 : Boxed W1 (w.heap.size + 1) 3 (.int .i64 0) := by rw [← hW1]; have := Boxed.new (w.alloc (.cells #[.slice A v.length c] 23)) 3 (.int .i64 0); rwa [World.size_alloc] at this
  have hs1 : W1.heap.size = w.heap.size + 2 := by rw [← hW1]; simp
  have HB1 := Lib.hid (And.intro hb1 (And.intro hb2 (And.intro hs1 hB1)))
  clear hb1 hb2 hs1 hB1 hcv hr1
  subst hW1
  gi_wp2_with (first
    | (refine ⟨trivial, ?_⟩; gi_at_call 30; refine (callsIn_wide.2 HVA.out).mono ?_; rintro e w1 ⟨rfl, rfl⟩)
    | (refine ⟨trivial, ?_⟩; gi_at_call 38; refine (callsIn_wide.2 HF.out).mono ?_; rintro e w2 ⟨T, rfl, hT, hTf, hb2⟩; have hst := storeT_new HSZ.out hZs hT)
    | (refine ⟨trivial, ?_⟩; gi_at_call 44; refine (callsIn_wide.2 (ratesFrom_any 0 _)).mono ?_; rintro e w3 ⟨rfl, rfl⟩))
  obtain ⟨hbv, hbr, hs1, hB1⟩ := HB1.out
  have hbv2 := boxed_below hbv hb2 hbv.lt
  have hbr2 := boxed_below hbr hb2 hbr.lt
  have hg2 : w.heap.size + 1 < w2.heap.size := by have := hb2.size; omega
  have hB2 := hB1.trans (hb2.mono hB1.size)
  have hI0 : FwTab w (.slice A v.length c) w2.heap.size T 0 ((w2.alloc (.cells (T.map (Value.int .i64)).toArray 42)).alloc (.cells #[.int .i64 0] 3)) :=
    ⟨⟨(hbv2.alloc _).alloc _, (hbr2.alloc _).alloc _, (tab_newR w2 T).alloc _⟩, (hB2.alloc (by omega) _).alloc (by simp; omega) _⟩
  have hcf := (Boxed.new (w2.alloc (.cells (T.map (Value.int .i64)).toArray 42)) 3 (.int .i64 0)).cell
  rw [World.size_alloc] at hcf
  have hsz0 : ((w2.alloc (.cells (T.map (Value.int .i64)).toArray 42)).alloc (.cells #[.int .i64 0] 3)).heap.size = w2.heap.size + 2 := by simp
  obtain ⟨g, hge⟩ : ∃ g, w2.heap.size = g := ⟨_, rfl⟩
  obtain ⟨cs, hcs⟩ : ∃ cs, (T.map (Value.int .i64)).toArray = cs := ⟨_, rfl⟩
  rw [hcs] at hI0 hcf hsz0 ⊢
  rw [hge] at hI0 hcf hsz0 hg2 ⊢
  obtain ⟨W0, hW0⟩ : ∃ W0, (w2.alloc (.cells cs 42)).alloc (.cells #[.int .i64 0] 3) = W0 := ⟨_, rfl⟩
  rw [hW0] at hI0 hcf hsz0 ⊢
  have HTF := Lib.hid hTf
  clear hW0 hge hcs hst hbv hbr hs1 hB1 hbv2 hbr2 hB2 hb2 hTf HVA HF HB1 HZ HSZ hz hZs
  refine wpIn_rangeFunc_ownF hro h1 (gf := 49) (lb := #[.pointer (some ⟨g + 1, 0, none⟩)]) rfl trivial (enters_of Try.func49 (by kernel_rfl) rfl)
    (rates_stops Fence.wide (8 - 1) trivial hro (by omega) (g + 1) 0 (by omega) (fun _ _ => True) W0 (by omega) hcf) (fun _ _ => trivial) (fun _ _ _ _ _ _ _ _ => trivial) (Below.refl _ _) (fun _ => rfl)
    (fun pre W => FwTab w (.slice A v.length c) g T 0 W ∧ ∀ x ∈ pre.map (·.1), gr v (x : Nat) = fw v x)
    (fun c' pre W => ∃ (pre0 : List Rate) (x : Rate), c' = .ret ∧ pre = pre0 ++ [x] ∧ (∀ y ∈ pre0.map (·.1), gr v (y : Nat) = fw v y) ∧ gr v x.1 ≠ fw v x.1 ∧ FwTab w (.slice A v.length c) g T x.1 W)
    (OwnFrom.and (fwTab_own w _ g T (fun _ : List Rate => 0) (by omega)) (ownFrom_of (fun pre : List Rate => ∀ x ∈ pre.map (·.1), gr v (x : Nat) = fw v x)))
    (fun c' s X Y row hs hg hr => by
      obtain ⟨pre0, x, h1, h2, h3, h4, h5⟩ := hs
      exact ⟨pre0, x, h1, h2, h3, h4, fwTab_own w _ g T (fun _ : List Rate => (x.1 : Int)) (B := W0.heap.size) (by omega) s X Y row h5 hg hr⟩)
    ⟨hI0, fun x hx => by simp at hx⟩
    (fun x => { tmps := #[.slice A v.length c, .pointer (some ⟨w.heap.size, 0, none⟩), .pointer (some ⟨w.heap.size + 1, 0, none⟩), .pointer (some ⟨g, 0, none⟩), .int .i64 (x.1 : Int), .slice A v.length c, .bool true, .bool false, .slice A v.length c, .agg cs,
      .func (.func 49) #[] #[.pointer (some ⟨g + 1, 0, none⟩)], .int .i64 (x.1 : Int), undef, undef, undef, undef, undef, undef, undef, undef], defers := [] }) ?assign ?body ?done ?stop
  case assign =>
    intro l x W K hK
    gi_wp2
    exact hK
  case body =>
    rintro l pre x W ⟨hI, hall⟩ hlen
    obtain ⟨x, hx⟩ := x
    have HI := Lib.hid hI
    have HALL := Lib.hid hall
    obtain ⟨⟨hbv, hbr, htab⟩, hB⟩ := hI
    have hcx := htab.cell (i := x) (by omega)
    have hTx : tabF T x = fw v x := HTF.out x hx
    rw [hTx] at hcx
    have hbt := htab.lt
    have hcv := hbv.cell
    have hx141 : (x : Int) < 141 := by omega
    have HG := Lib.hid (greedyOf_any A c v (x : Int) W.drew (hr.past hB : Ints W W.heap.size A v) hv12 hl4 (by omega) (by omega))
    have hmx : Try.prog.follows .mixedOrders = true := by kernel_rfl
    obtain ⟨f, hf⟩ : ∃ f, fw v x = f := ⟨_, rfl⟩
    obtain ⟨q, hq⟩ : ∃ q, gr v (x : Int) = q := ⟨_, rfl⟩
    rw [hf] at hcx
    rw [hq] at HG
    have HFQ := Lib.hid (And.intro hf hq)
    clear hTx hall hbv hbr htab hB hr hI0 hcf hf hq
    gi_wp2
    have hbd := (Below.refl W.heap.size W).drew
    have hbrlt : w.heap.size + 1 < W.heap.size := HI.out.1.2.1.lt
    have hcr : W.cell? ⟨w.heap.size + 1, 0, none⟩ = some (.int .i64 0) := HI.out.1.2.1.cell
    have hfr : W.frozen? ⟨w.heap.size + 1, 0, none⟩ = false := HI.out.1.2.1.frozen
    have HBD := Lib.hid hbd
    have HLT := Lib.hid (And.intro hbt hbrlt)
    have HCX := Lib.hid (And.intro hcr hfr)
    clear hbd hbt hbrlt hcr hfr
    by_cases hqf : q = f
    · have hqq : (q != f) = false := by simp [hqf]
      have HQF := Lib.hid hqf
      clear hqf
      gi_region_with_o (refine ⟨trivial, ?_⟩; gi_at_call 42; refine (CallsIn.inRound l (callsIn_wide.2 HG.out)).mono ?_; rintro e W2 ⟨rfl, hb2⟩; have hcx2 : W2.cell? ⟨g, x, none⟩ = some (.int .i64 f) := (hb2.cell (p := ⟨g, x, none⟩) HLT.out.1).trans hcx; have HB2 := Lib.hid hb2; clear hb2)
      all_goals gi_wp2
      all_goals exact ⟨keepsOthers_of_below (HBD.out.trans HB2.out), trivial, fwTab_below HI.out (HBD.out.trans HB2.out), fun y hy => by
        rw [List.map_append] at hy
        rcases List.mem_append.1 hy with hy | hy
        · exact HALL.out y hy
        · simp at hy; subst hy; rw [HFQ.out.1, HFQ.out.2]; exact HQF.out⟩
    · have hqq : (q != f) = true := by simp [hqf]
      have HQF := Lib.hid hqf
      clear hqf
      gi_region_with_o (refine ⟨trivial, ?_⟩; gi_at_call 42; refine (CallsIn.inRound l (callsIn_wide.2 HG.out)).mono ?_; rintro e W2 ⟨rfl, hb2⟩; have hcx2 : W2.cell? ⟨g, x, none⟩ = some (.int .i64 f) := (hb2.cell (p := ⟨g, x, none⟩) HLT.out.1).trans hcx; have hcr2 : W2.cell? ⟨w.heap.size + 1, 0, none⟩ = some (.int .i64 0) := (hb2.cell (p := ⟨w.heap.size + 1, 0, none⟩) HLT.out.2).trans HCX.out.1; have hfr2 : W2.frozen? ⟨w.heap.size + 1, 0, none⟩ = false := (hb2.frozen (p := ⟨w.heap.size + 1, 0, none⟩) HLT.out.2).trans HCX.out.2; have HB2 := Lib.hid hb2; clear hb2)
      all_goals gi_wp2
      all_goals exact ⟨(keepsOthers_of_below (HBD.out.trans HB2.out)).trans (KeepsOthers.setCell _ _ _), pre, ⟨x, hx⟩, rfl, rfl, HALL.out, by show gr v (x : Int) ≠ fw v x; rw [HFQ.out.1, HFQ.out.2]; exact HQF.out, fwTab_set (fwTab_below HI.out (HBD.out.trans HB2.out)) hg2 x⟩
  case done =>
    rintro D ys W hD hys ⟨hI, hall⟩ hK
    have HE := Lib.hid (show wasteV v = -1 from IsWaste.unique (waste_is v) (.inl ⟨rfl, fun r hr => hall r (by rw [hys]; simp [List.mem_range']; omega)⟩))
    have hcr := hI.1.2.1.cell
    have hfr := hI.1.2.1.frozen
    have hI2 := fwTab_set hI hg2 (-1)
    have hK2 := (KeepsOthers.setCell W ⟨w.heap.size + 1, 0, none⟩ (.int .i64 (-1))).same D _ hK rfl
    have hlt := hI2.1.2.1.lt
    have HI2 := Lib.hid hI2
    clear hI hall hys hI2 hI0 hcf
    gi_wp2
    refine ⟨by simp, .inl ⟨_, _, rfl, run_takeDeferred hK2, ?_⟩⟩
    have hne : w.heap.size + 1 ≠ D := by omega
    have hc3 : ((W.setCell ⟨w.heap.size + 1, 0, none⟩ (.int .i64 (-1))).putObj D (.deferred none)).cell? ⟨w.heap.size + 1, 0, none⟩ = some (.int .i64 (-1)) := by
      have h3 := HI2.out.1.2.1.cell
      simp only [World.cell?, World.putObj_heap_other (w := W.setCell ⟨w.heap.size + 1, 0, none⟩ (.int .i64 (-1))) (o := .deferred none) hne] at h3 ⊢
      exact h3
    exact ⟨_, results_cell rfl rfl (loadVar_int hc3), by rw [HE.out], HI2.out.2.trans (belowK_b (w := w) (Nat.le_refl _) _ D _ _ (by omega) hK2 rfl rfl)⟩
  case stop =>
    rintro D c' pre W hD ⟨k, hk, hpre⟩ ⟨pre0, x, rfl, rfl, hall, hne, hI⟩ hK
    rw [List.map_append] at hpre
    obtain ⟨hxk, hp0⟩ := last_of_range hpre rfl
    have hxk' : x.1 + 1 = 0 + k := hxk
    have HE := Lib.hid (show wasteV v = (x.1 : Int) from IsWaste.unique (waste_is v) (.inr ⟨x.1, rfl, x.2, hne, fun j hj => hall j (by rw [hp0]; simp [List.mem_range']; omega)⟩))
    have HI2 := Lib.hid hI
    clear hI hall hpre hp0 hxk hxk' hne hI0 hcf
    gi_wp2
    refine ⟨by simp, .inl ⟨_, _, rfl, run_takeDeferred hK, ?_⟩⟩
    have hne : w.heap.size + 1 ≠ D := by omega
    have hc3 : (W.putObj D (.deferred none)).cell? ⟨w.heap.size + 1, 0, none⟩ = some (.int .i64 (x.1 : Int)) := by
      have h3 := HI2.out.1.2.1.cell
      simp only [World.cell?, World.putObj_heap_other (w := W) (o := .deferred none) hne] at h3 ⊢
      exact h3
    exact ⟨_, results_cell rfl rfl (loadVar_int hc3), by rw [HE.out], HI2.out.2.trans (belowK_b (w := w) (Nat.le_refl _) _ D _ _ (by omega) hK rfl rfl)⟩

def fwaV (v : List Int) : Int := if stampsB v then wasteV v else -1
theorem fwaV_yes {v : List Int} (h : stampsB v = true) : fwaV v = wasteV v := by simp [fwaV, h]
theorem fwaV_no {v : List Int} (h : stampsB v = false) : fwaV v = -1 := by simp [fwaV, h]

set_option maxRecDepth 100000 in
set_option maxHeartbeats 1000000 in
theorem firstWaste_no (A : Option Addr) (c : Nat) (v : List Int) (w : World) (hr : Ints w w.heap.size A v) (hv : stampsB v = false) :
    Calls Try.prog 17 #[.slice A v.length c] w fun e W' => e = .returned (.int .i64 (-1)) ∧ Below w.heap.size w W' := by
  obtain ⟨W1, hW1⟩ : ∃ W1, (w.alloc (.cells #[.slice A v.length c] 23)).alloc (.cells #[.int .i64 0] 3) = W1 := ⟨_, rfl⟩
  have hB1 : Below w.heap.size w W1 := by rw [← hW1]; exact (((Below.refl _ w).alloc (Nat.le_refl _) _).alloc (by simp) _)
  have hr1 := hr.past hB1
  have HVA := Lib.hid (impVS_any A c v W1 hr1)
  rw [hv] at HVA
  have hbn := Boxed.new (w.alloc (.cells #[.slice A v.length c] 23)) 3 (.int .i64 (-1))
  rw [World.size_alloc] at hbn
  have HC := Lib.hid hbn.cell
  have HB := Lib.hid (show Below w.heap.size w ((w.alloc (.cells #[.slice A v.length c] 23)).alloc (.cells #[.int .i64 (-1)] 3)) from (((Below.refl _ w).alloc (Nat.le_refl _) _).alloc (by simp) _))
  clear hr1 hB1 hbn
  subst hW1
  go_enter Try.func17, Try.ntmps17
  go_wp2_with (go_at_call 30; refine HVA.out.mono ?_; rintro e w1 ⟨rfl, rfl⟩)
  refine bodyPost_ret (results_cell rfl rfl (loadVar_int HC.out)) rfl ?_
  exact ⟨rfl, HB.out⟩

theorem impFirstWaste_any (A : Option Addr) (c : Nat) (v : List Int) (w : World) (hr : Ints w w.heap.size A v) :
    Calls Try.prog 17 #[.slice A v.length c] w fun e W' => e = .returned (.int .i64 (fwaV v)) ∧ Below w.heap.size w W' := by
  by_cases hv : stampsB v = true
  · rw [fwaV_yes hv]; exact callsIn_wide.1 (firstWaste_in A c v w hr hv)
  · have hv' : stampsB v = false := by simpa using hv
    rw [fwaV_no hv']; exact firstWaste_no A c v w hr hv'
end Go.Proofs.Ytookdmdlpglbcab
