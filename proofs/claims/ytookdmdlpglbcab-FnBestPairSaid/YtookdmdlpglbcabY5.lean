/- fewestOf, the program's table. No condition. -/
import Derived.Test.YtookdmdlpglbcabY4
import Derived.Deep.WholeRow
import Derived.Deep.MidRow
import Derived.Laws.CopyOwn
namespace Go.Proofs.Ytookdmdlpglbcab
open Go.RowKit
open Go.Shelf
attribute [local go_sem] Oper.semAt_some

/-- What a table is made of: closed facts on its type. -/
theorem infoT : (Try.prog.info? 42).map (fun i => (i.zero, i.size)) = some (some (.agg (Array.replicate 141 (.int .i64 0))), 141) := by kernel_rfl


theorem results_cell {fn : Func} {t : Tmp} {ty : TypeId} {P : Program} {tmps : Array Value} {w : World} {v : Value} {a : Addr} (h : fn.results = #[.cell t ty]) (ht : tmps[t]?.getD undef = .pointer (some a)) (hl : (loadVar ty a).run P w = .ok v w) :
    (results fn tmps).run P w = .ok v w := by
  simp [results, h, ht, asAddr, hl]
/-- A whole row is loaded, is stored: inside a fence. -/
theorem wpListIn_load_row {F : Fence} {n : Nat} {P : Program} {ops : Array Oper} {rest : List Oper} {o : Oper} {a : Act} {w : World} {Q : Exit → Act → World → Prop} (hg : o.guard = none) (ty : TypeId) (x : Operand) (ho : o.op = .load ty x)
    (b : Nat) (hx : a.eval x = .pointer (some ⟨b, 0, none⟩)) (cs : Array Value) (d : TypeDesc) (hc : w.heap[b]? = some (.cells cs ty (0, 0)))
    (hu : P.underlying ty = some d) (hd : d.isRow = true) (hi : (P.info? ty).map (·.size) = some cs.size)
    (h : wpListIn F n P ops Q rest (a.put o.dst (.agg cs)) w) : wpListIn F n P ops Q (o :: rest) a w := by
  refine wpListIn_plain hg fun K hK => ?_
  have hr := run_loadVar_mid (P := P) w b 0 ty cs.toList d (fun j v hv => by rw [Nat.zero_add, cell_of_row _ _ j cs ty (0, 0) hc]; simpa using hv) hu hd (by simpa using hi)
  unfold Oper.wpIn
  refine ⟨?_, ?_⟩
  · simp [Oper.about, ho]
  · rw [Oper.semAt_plain F _ _ (by rw [ho]; intro c hc'; cases hc')]
    simp only [execOp, ho, hx, Instr.loadAt, Instr.sureAddr, Sem.run_bind, Sem.run_pure, Result.andThen_ok, hr, Array.toArray_toList]
    exact hK _ _ h
theorem wpListIn_store_row {F : Fence} {n : Nat} {P : Program} {ops : Array Oper} {rest : List Oper} {o : Oper} {a : Act} {w : World} {Q : Exit → Act → World → Prop} (hg : o.guard = none) (ty : TypeId) (x y : Operand) (ho : o.op = .store ty x y)
    (b : Nat) (hx : a.eval x = .pointer (some ⟨b, 0, none⟩)) (cs old : Array Value) (hy : a.eval y = .agg cs) (hc : w.heap[b]? = some (.cells old ty (0, 0)))
    (hi : (P.info? ty).map (·.size) = some cs.size) (hs : old.size = cs.size) (h1 : cs.all (·.oneCell') = true)
    (h : wpListIn F n P ops Q rest (a.put o.dst undef) (w.setRow b cs)) : wpListIn F n P ops Q (o :: rest) a w := by
  refine wpListIn_plain hg fun K hK => ?_
  have hr := run_storeVar_row (P := P) w b ty ty old cs hc hi hs h1
  unfold Oper.wpIn
  refine ⟨?_, ?_⟩
  · simp [Oper.about, ho]
  · rw [Oper.semAt_plain F _ _ (by rw [ho]; intro c hc'; cases hc')]
    simp only [execOp, ho, hx, hy, Instr.storeAt, Instr.sureAddr, Sem.run_bind, Sem.run_pure, Result.andThen_ok, hr]
    exact hK _ _ h

theorem stepS_far {f : Nat → Int} {r : Nat} {x s : Int} (h : (r : Int) < s) : stepS f r x s = x := by
  unfold stepS; rw [if_neg (fun h' => by omega)]
theorem stepS_none {f : Nat → Int} {r : Nat} {x s : Int} (h : f (r - s.toNat) < 0) : stepS f r x s = x := by
  unfold stepS; rw [if_neg (fun h' => by omega)]
theorem stepS_more {f : Nat → Int} {r : Nat} {x s : Int} (h0 : ¬ x < 0) (h : ¬ f (r - s.toNat) + 1 < x) : stepS f r x s = x := by
  unfold stepS; rw [if_neg (fun h' => by omega)]
theorem stepS_less {f : Nat → Int} {r : Nat} {x s : Int} (h : s ≤ r) (h1 : 0 ≤ f (r - s.toNat)) (h2 : x < 0 ∨ f (r - s.toNat) + 1 < x) : stepS f r x s = f (r - s.toNat) + 1 := by
  unfold stepS; rw [if_pos ⟨h, h1, h2⟩]

/-- What lies between two rounds. -/
def RateTab (w : World) (sv : Value) (T : List Int) (W : World) : Prop :=
  (Boxed W w.heap.size 23 sv ∧ Tab W (w.heap.size + 1 + 1) T ∧ Tab W (w.heap.size + 1) (List.replicate 141 0)) ∧ Below w.heap.size w W
theorem rateTab_own {β : Type} (w : World) (sv : Value) (T : β → List Int) {B : Nat} (hB : w.heap.size ≤ B) : OwnFrom B (fun (b : β) W => RateTab w sv (T b) W) :=
  OwnFrom.and (Own.from (fun _ _ _ _ hs hg hr => ⟨boxed_keptO hs.1 hg hr, hs.2.1.keptO hg hr, hs.2.2.keptO hg hr⟩) _) (ownFrom_below (Nat.le_refl _) hB)
theorem rateTab_set {w : World} {sv : Value} {T : List Int} {W : World} (h : RateTab w sv T W) (i : Nat) (z : Int) : RateTab w sv (T.set i z) (W.setCell ⟨w.heap.size + 1 + 1, i, none⟩ (.int .i64 z)) :=
  ⟨⟨boxed_otherO h.1.1 _ (by omega), h.1.2.1.set i z, h.1.2.2.other _ (by omega)⟩, h.2.setCell (p := ⟨w.heap.size + 1 + 1, i, none⟩) (by simp; omega) _⟩
theorem zeros_tab (n : Nat) : (List.replicate n (0 : Int)).map (Value.int .i64) = List.replicate n (.int .i64 0) := by simp
theorem tab_new {W : World} {b : Nat} (hb : W.heap.size = b) {Z : Array Value} (hZ : Array.replicate 141 (.int .i64 0) = Z) : Tab (W.alloc (.cells Z 42)) b (List.replicate 141 0) := by
  subst hb
  subst hZ
  show _ = _
  rw [zeros_tab, List.toArray_replicate]
  exact World.alloc_heap_new W _
theorem in_le {xs : List Rate} : ∀ x ∈ xs.map (·.1), x ≤ 140 := by
  intro x hx
  obtain ⟨y, _, rfl⟩ := List.mem_map.1 hx
  exact y.2

set_option maxHeartbeats 4000000 in
theorem fewestOf_in (A : Option Addr) (c : Nat) (v : List Int) (w : World) (hr : Ints w w.heap.size A v) (hp : ∀ s ∈ v, 1 ≤ s ∧ s ≤ 12) (hl : v.length ≤ 100) :
    CallsIn Fence.wide 5 Try.prog 38 #[.slice A v.length c] w fun e W' => e = .returned (.agg ((tabOf v (List.range' 1 140)).map (Value.int .i64)).toArray) ∧ Below w.heap.size w W' := by
  obtain ⟨hz, hsz⟩ := zero_of_info infoT
  obtain ⟨Z, hZ⟩ : ∃ Z : Array Value, Array.replicate 141 (.int .i64 0) = Z := ⟨_, rfl⟩
  rw [hZ] at hz
  have HP := Lib.hid hp
  have HZ := Lib.hid hZ
  have HSZ := Lib.hid hsz
  clear hZ hp hsz
  have h1 : 1 ≤ 5 := by omega
  have hro : Fence.wide.round = none := rfl
  refine callsIn_of_wp_marks Try.func38 rfl trivial ?_ hro
  simp only [Try.ntmps38, List.size_toArray, List.length_cons, List.length_nil, Nat.reduceAdd, Nat.reduceSub, Array.replicate_succ, Array.replicate_zero, List.push_toArray, List.append_toArray, List.nil_append, List.cons_append]
  gi_wp2_with (refine ⟨trivial, ?_⟩; gi_at_call 44; refine (callsIn_wide.2 (ratesFrom_any 1 _)).mono ?_; rintro e w' ⟨rfl, rfl⟩)
  have b1 := Boxed.new w 23 (.slice A v.length c)
  have b2 := tab_new (W := w.alloc (.cells #[.slice A v.length c] 23)) (World.size_alloc _ _) HZ.out
  have b3 := tab_new (W := (w.alloc (.cells #[.slice A v.length c] 23)).alloc (.cells Z 42)) (by rw [World.size_alloc, World.size_alloc]) HZ.out
  have b4 := Boxed.new (((w.alloc (.cells #[.slice A v.length c] 23)).alloc (.cells Z 42)).alloc (.cells Z 42)) 3 (.int .i64 1)
  simp only [World.size_alloc] at b4
  have hB0 : Below w.heap.size w ((((w.alloc (.cells #[.slice A v.length c] 23)).alloc (.cells Z 42)).alloc (.cells Z 42)).alloc (.cells #[.int .i64 1] 3)) :=
    (((((Below.refl _ w).alloc (Nat.le_refl _) _).alloc (by simp) _).alloc (by simp; omega) _).alloc (by simp; omega) _)
  have hI0 : RateTab w (.slice A v.length c) (tabOf v []) ((((w.alloc (.cells #[.slice A v.length c] 23)).alloc (.cells Z 42)).alloc (.cells Z 42)).alloc (.cells #[.int .i64 1] 3)) :=
    ⟨⟨((b1.alloc _).alloc _).alloc _, b3.alloc _, (b2.alloc _).alloc _⟩, hB0⟩
  have hsz0 : ((((w.alloc (.cells #[.slice A v.length c] 23)).alloc (.cells Z 42)).alloc (.cells Z 42)).alloc (.cells #[.int .i64 1] 3)).heap.size = w.heap.size + 4 := by simp
  have hc4 := b4.cell
  clear b1 b2 b3 b4 hz
  obtain ⟨W0, hW0⟩ : ∃ W0, ((((w.alloc (.cells #[.slice A v.length c] 23)).alloc (.cells Z 42)).alloc (.cells Z 42)).alloc (.cells #[.int .i64 1] 3)) = W0 := ⟨_, rfl⟩
  rw [hW0] at hB0 hI0 hsz0 hc4 ⊢
  clear hW0 HZ
  refine wpIn_rangeFunc_ownF hro h1 (gf := 49) (lb := #[.pointer (some ⟨w.heap.size + 1 + 1 + 1, 0, none⟩)]) rfl trivial (enters_of Try.func49 (by kernel_rfl) rfl)
    (rates_stops Fence.wide (5 - 1) trivial hro (by omega) (w.heap.size + 1 + 1 + 1) 1 (by omega) (fun _ _ => True) W0 (by omega) hc4) (fun _ _ => trivial) (fun _ _ _ _ _ _ _ _ => trivial) (Below.refl _ _) (fun _ => rfl)
    (fun pre W => RateTab w (.slice A v.length c) (tabOf v (pre.map (·.1))) W)
    (fun _ _ _ => False)
    (rateTab_own _ _ (fun pre : List Rate => tabOf v (pre.map (·.1))) (by omega))
    (fun _ _ _ _ _ hs _ _ => hs)
    hI0
    (fun x => { tmps := #[.slice A v.length c, .pointer (some ⟨w.heap.size, 0, none⟩), .pointer (some ⟨w.heap.size + 1, 0, none⟩), .pointer (some ⟨w.heap.size + 1 + 1, 0, none⟩), .int .i64 (x.1 : Int), undef, undef, undef,
      .func (.func 49) #[] #[.pointer (some ⟨w.heap.size + 1 + 1 + 1, 0, none⟩)], .int .i64 (x.1 : Int), undef, undef, undef, undef, undef, undef, undef, undef, undef, undef, undef, undef, undef, undef, undef, undef, undef, undef, undef, undef, undef, undef, undef, undef, undef, undef, undef, undef, undef, undef, undef, undef, undef, undef, undef, undef, undef, undef, undef, undef, undef], defers := [] }) ?assign ?body ?done ?stop
  case assign =>
    intro l x W K hK
    gi_wp2
    exact hK
  case body =>
    rintro l pre x W hI hlen
    obtain ⟨x, hx⟩ := x
    have HI := Lib.hid hI
    obtain ⟨⟨hbv, htab, hres⟩, hB⟩ := hI
    have hok : TabOk (tabOf v (pre.map (·.1))) pre.length := tabOk_of v (fun s hs => (HP.out s hs).1) _ _ (by simp) in_le
    obtain ⟨T, hT⟩ : ∃ T, tabOf v (pre.map (·.1)) = T := ⟨_, rfl⟩
    have HT := Lib.hid (show tabOf v ((pre ++ [(⟨x, hx⟩ : Rate)]).map (·.1)) = updT v T x by rw [List.map_append]; exact (tabOf_snoc _ _ _).trans (by rw [hT]))
    rw [hT] at htab hok HI
    clear hT hres
    have hcx := htab.cell (i := x) (by rw [hok.1]; omega)
    have hfx := htab.frozen x
    have hcv := hbv.cell
    have hx141 : (x : Int) < 141 := by omega
    gi_wp2
    clear hcx hfx hcv htab hbv hB
    gi_loopw [14] (fun i wr => ∃ k : Nat, k ≤ v.length ∧ i = .int .i64 k ∧ RateTab w (.slice A v.length c) (T.set x ((v.take k).foldl (stepS (tabF T) x) (-1))) wr ∧ KeepsOthers W wr) (fun i _ => v.length - (intOf i).toNat)
    case atStart => exact ⟨0, by omega, rfl, rateTab_set HI.out x (-1), KeepsOthers.setCell _ _ _⟩
    case round =>
      obtain ⟨k, hk, rfl, hI, hko⟩ := hrel
      have HK := Lib.hid hko
      have HR := Lib.hid hI
      obtain ⟨⟨hbv, htab, hres⟩, hB⟩ := hI
      have hrv := hr.below hB
      clear hko hres hB hr
      by_cases hlt : k < v.length
      · obtain ⟨b, o, rfl, hb, hc⟩ := hrv.open (by simp; omega)
        have hcell := ints_at hc hlt
        have HTK := Lib.hid (foldl_take_succ (stepS (tabF T) x) v (-1) hlt)
        have hs12 := HP.out _ (List.getElem_mem hlt)
        have hcb := foldS_bd2 (f := tabF T) (r := x) (m := pre.length) (l := v.take k) (fun s hs => (HP.out s (List.mem_of_mem_take hs)).1) (fun i hi => hok.2 i (by omega)) (-1) (by omega) (by omega)
        obtain ⟨s, hse⟩ : ∃ s, v[k] = s := ⟨_, rfl⟩
        obtain ⟨cur, hcur⟩ : ∃ cur, (v.take k).foldl (stepS (tabF T) x) (-1) = cur := ⟨_, rfl⟩
        rw [hse] at hcell hs12 HTK
        rw [hcur] at htab hcb HTK HR
        have hTl : (T.set x cur).length = 141 := by rw [List.length_set]; exact hok.1
        have hcx := htab.cell (i := x) (by omega)
        rw [tabF_set (by rw [hok.1]; omega), if_pos rfl] at hcx
        have hfx := htab.frozen x
        obtain ⟨hs1, hs2⟩ := hs12
        obtain ⟨hc1, hc2⟩ := hcb
        have HTB := Lib.hid htab
        clear hc hse hcur htab hrv
        by_cases hgt : (x : Int) < s
        · have HE := Lib.hid (show (v.take (k + 1)).foldl (stepS (tabF T) x) (-1) = cur by rw [HTK.out]; exact stepS_far hgt)
          gi_wp2
          go_roundw
          case rel => exact ⟨k + 1, by omega, by go_num, by rw [HE.out]; exact HR.out, HK.out⟩
          case measure => simp [intOf]; omega
        · obtain ⟨j, hj⟩ : ∃ j, x - s.toNat = j := ⟨_, rfl⟩
          have hsj : (x : Int) - s = (j : Int) := by omega
          have hwr : IntKind.i64.wrap ((x : Int) - s) = (j : Int) := by rw [hsj]; exact IntWalk.i64_in _ (by omega)
          have hj141 : (j : Int) < 141 := by omega
          have hcj := HTB.out.cell (i := j) (by omega)
          rw [tabF_set (by rw [hok.1]; omega), if_neg (by omega)] at hcj
          have hyb := hok.2 j (by omega)
          have HF := Lib.hid (show stepS (tabF T) x cur s = (if s ≤ x ∧ 0 ≤ tabF T j ∧ (cur < 0 ∨ tabF T j + 1 < cur) then tabF T j + 1 else cur) by rw [← hj]; rfl)
          obtain ⟨y, hy⟩ : ∃ y, tabF T j = y := ⟨_, rfl⟩
          rw [hy] at hcj hyb HF
          obtain ⟨hy1, hy2⟩ := hyb
          clear hj hsj hy
          by_cases hym : y = -1
          · have HE := Lib.hid (show (v.take (k + 1)).foldl (stepS (tabF T) x) (-1) = cur by rw [HTK.out, HF.out, if_neg (by omega)])
            subst hym
            gi_wp2
            go_roundw
            case rel => exact ⟨k + 1, by omega, by go_num, by rw [HE.out]; exact HR.out, HK.out⟩
            case measure => simp [intOf]; omega
          · have hyq : (y == -1) = false := beq_eq_false_iff_ne.2 hym
            have hwy : IntKind.i64.wrap (y + 1) = y + 1 := IntWalk.i64_in _ (by omega)
            have HS := Lib.hid (rateTab_set HR.out x (y + 1))
            have HKS := Lib.hid (HK.out.trans (KeepsOthers.setCell wr ⟨w.heap.size + 1 + 1, x, none⟩ (.int .i64 (y + 1))))
            rw [List.set_set] at HS
            by_cases hcm : cur = -1
            · have HE := Lib.hid (show (v.take (k + 1)).foldl (stepS (tabF T) x) (-1) = y + 1 by rw [HTK.out, HF.out, if_pos (by omega)])
              subst hcm
              gi_wp2
              go_roundw
              case rel => exact ⟨k + 1, by omega, by go_num, by rw [HE.out]; exact HS.out, HKS.out⟩
              case measure => simp [intOf]; omega
            · have hcq : (cur == -1) = false := beq_eq_false_iff_ne.2 hcm
              by_cases hyl : y + 1 < cur
              · have HE := Lib.hid (show (v.take (k + 1)).foldl (stepS (tabF T) x) (-1) = y + 1 by rw [HTK.out, HF.out, if_pos (by omega)])
                gi_wp2
                go_roundw
                case rel => exact ⟨k + 1, by omega, by go_num, by rw [HE.out]; exact HS.out, HKS.out⟩
                case measure => simp [intOf]; omega
              · have HE := Lib.hid (show (v.take (k + 1)).foldl (stepS (tabF T) x) (-1) = cur by rw [HTK.out, HF.out, if_neg (by omega)])
                gi_wp2
                go_roundw
                case rel => exact ⟨k + 1, by omega, by go_num, by rw [HE.out]; exact HR.out, HK.out⟩
                case measure => simp [intOf]; omega
      · have hk' : k = v.length := by omega
        subst hk'
        rw [List.take_length] at HR
        have HU := Lib.hid (show updT v T x = T.set x (v.foldl (stepS (tabF T) x) (-1)) from rfl)
        gi_wp2
        refine ⟨HK.out, trivial, ?_⟩
        show RateTab w (.slice A v.length c) (tabOf v ((pre ++ [(⟨x, hx⟩ : Rate)]).map (·.1))) wr
        rw [HT.out, HU.out]; exact HR.out
  case done =>
    rintro D ys W hD hys hI hK
    rw [hys] at hI
    obtain ⟨⟨_, htab, hres⟩, hB⟩ := hI
    have hlen : (tabOf v (List.range' 1 140)).length = 141 := (tabOk_of v (fun s hs => (HP.out s hs).1) 140 _ (by simp) (fun x hx => by simp [List.mem_range'] at hx; omega)).1
    have e0 : 141 - 1 = 140 := rfl
    rw [e0] at htab
    obtain ⟨T, hT⟩ : ∃ T, tabOf v (List.range' 1 140) = T := ⟨_, rfl⟩
    have HTT := Lib.hid hT
    rw [hT] at htab hlen
    have HR := Lib.hid hres
    have HB := Lib.hid hB
    clear hT hys e0 hres hB hI0 hB0 hc4
    gi_step
    gi_step
    apply wpIn_seq_k
    intro K' hK'
    apply wpIn_region_lit
    refine wpListIn_load_row rfl 42 (.tmp 3) rfl _ rfl _ _ htab Try.underlying42 rfl (by rw [HSZ.out]; simp [hlen]) ?_
    refine wpListIn_store_row rfl 42 (.tmp 2) (.tmp 50) rfl _ rfl _ _ rfl HR.out (by rw [HSZ.out]; simp [hlen]) (by simp [hlen]) (by simp [Value.oneCell']) ?_
    have hres2 := setRow_heap W (w.heap.size + 1) _ (T.map (Value.int .i64)).toArray _ _ HR.out
    have hK2 : (W.setRow (w.heap.size + 1) (T.map (Value.int .i64)).toArray).heap[D]? = some (.deferred (some [])) := (setRow_other W _ D _ (by omega)).trans hK
    have hb2 := below_setRow (g := w.heap.size + 1) HB.out (by omega) (T.map (Value.int .i64)).toArray
    obtain ⟨W2, hW2⟩ : ∃ W2, W.setRow (w.heap.size + 1) (T.map (Value.int .i64)).toArray = W2 := ⟨_, rfl⟩
    rw [hW2] at hres2 hK2 hb2 ⊢
    clear hW2 htab
    apply wpListIn_nil
    apply hK'
    gi_wp2
    refine ⟨by simp, .inl ⟨_, _, rfl, run_takeDeferred hK2, ?_⟩⟩
    have hres3 : (W2.putObj D (.deferred none)).heap[w.heap.size + 1]? = some (.cells (T.map (Value.int .i64)).toArray 42 (0, 0)) := (World.putObj_heap_other (by omega)).trans hres2
    have hb3 : Below w.heap.size w (W2.putObj D (.deferred none)) := hb2.trans (belowK_b (w := w) (Nat.le_refl _) W2 D _ _ (by omega) hK2 rfl rfl)
    obtain ⟨W3, hW3⟩ : ∃ W3, W2.putObj D (.deferred none) = W3 := ⟨_, rfl⟩
    rw [hW3] at hres3 hb3 ⊢
    have hload := run_loadVar_mid (P := Try.prog) W3 (w.heap.size + 1) 0 42 (T.map (Value.int .i64)) _ (fun j v hv => by rw [Nat.zero_add, cell_of_row _ _ j _ _ _ hres3]; simpa using hv) Try.underlying42 rfl (by rw [HSZ.out]; simp [hlen])
    refine ⟨.agg (T.map (Value.int .i64)).toArray, ?_, by rw [HTT.out], hb3⟩
    exact results_cell rfl rfl hload
  case stop =>
    rintro D c' pre W _ _ h _
    exact h.elim

/-- The program's table. -/
theorem fewestOf_any (A : Option Addr) (c : Nat) (v : List Int) (w : World) (hr : Ints w w.heap.size A v) (hp : ∀ s ∈ v, 1 ≤ s ∧ s ≤ 12) (hl : v.length ≤ 100) :
    Calls Try.prog 38 #[.slice A v.length c] w fun e W' => ∃ T : List Int, e = .returned (.agg (T.map (Value.int .i64)).toArray) ∧ T.length = 141 ∧ (∀ i, i ≤ 140 → T.getD i 0 = fw v i) ∧ Below w.heap.size w W' :=
  (callsIn_wide.1 (fewestOf_in A c v w hr hp hl)).mono fun _ _ ⟨he, hb⟩ => ⟨_, he, (tabOk_of v (fun s hs => (hp s hs).1) 140 _ (by simp) (fun x hx => by simp [List.mem_range'] at hx; omega)).1, tabOf_fw v (fun s hs => (hp s hs).1) 140 (by omega), hb⟩
end Go.Proofs.Ytookdmdlpglbcab
