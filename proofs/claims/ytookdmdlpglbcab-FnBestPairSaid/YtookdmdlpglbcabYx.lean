/- reachOf, the program's. No condition. -/
import Derived.Test.YtookdmdlpglbcabYw
import Derived.Test.YtookdmdlpglbcabYu
namespace Go.Proofs.Ytookdmdlpglbcab
open Go.RowKit
open Go.Shelf
attribute [local go_sem] Oper.semAt_some

/-- A round of a loop that lays its number into a box: the record is ready again, nothing else turns. -/
theorem grown_round {W : World} {l br : Nat} {r : Loop} {y : Value} (o1 : Obj) (hl : W.heap[l]? = some (.loop r)) (hb : Boxed W br 3 y) (x : Value) :
    W.grownBy (((W.putObj l o1).setCell ⟨br, 0, none⟩ x).putObj l (.loop r)) (some br) ∧ Boxed (((W.putObj l o1).setCell ⟨br, 0, none⟩ x).putObj l (.loop r)) br 3 x := by
  have hne : br ≠ l := by intro e; subst e; rw [show W.heap[br]? = _ from hb] at hl; cases hl
  have hlt := (Array.getElem?_eq_some_iff.1 hl).1
  have h1 : Boxed (W.putObj l o1) br 3 y := (World.putObj_heap_other hne).trans hb
  have h2 := h1.set x
  refine ⟨⟨rfl, rfl, rfl, by simp [World.setCell], fun k hk hkn => ?_⟩, (World.putObj_heap_other hne).trans h2⟩
  by_cases hkl : k = l
  · subst hkl
    rw [World.putObj_heap_same (by simp [World.setCell]; exact hlt)]; exact hl.symm
  · rw [World.putObj_heap_other hkl, Below.heap_setCell _ _ _ k (fun e => hkn (by rw [e])), World.putObj_heap_other hkl]

set_option maxHeartbeats 4000000 in
theorem reachOf_in (A : Option Addr) (c : Nat) (v : List Int) (most : Nat) (w : World) (hr : Ints w w.heap.size A v) (hp : ∀ s ∈ v, 1 ≤ s ∧ s ≤ 12) (hl : v.length ≤ 100) (h6 : most ≤ 6) :
    CallsIn Fence.wide 9 Try.prog 46 #[.slice A v.length c, .int .i64 (most : Int)] w fun e W' => e = .returned (.int .i64 (reachV v most : Int)) ∧ Below w.heap.size w W' := by
  obtain ⟨hz, hsz⟩ := zero_of_info infoT
  obtain ⟨Z, hZ⟩ : ∃ Z : Array Value, Array.replicate 141 (.int .i64 0) = Z := ⟨_, rfl⟩
  rw [hZ] at hz
  have HP := Lib.hid hp
  have HZ := Lib.hid hZ
  have HSZ := Lib.hid hsz
  have hro : Fence.wide.round = none := rfl
  obtain ⟨W1, hW1⟩ : ∃ W1, w.alloc (.cells #[.int .i64 (most : Int)] 3) = W1 := ⟨_, rfl⟩
  have hB1 : Below w.heap.size w W1 := by rw [← hW1]; exact (Below.refl _ w).alloc (Nat.le_refl _) _
  have hbm : Boxed W1 w.heap.size 3 (.int .i64 (most : Int)) := by rw [← hW1]; exact Boxed.new _ _ _
  have hs1 : W1.heap.size = w.heap.size + 1 := by rw [← hW1]; simp
  have HF := Lib.hid (fewestOf_any A c v W1 (hr.past hB1) hp hl)
  have hZs : Z.size = 141 := by rw [← HZ.out, Array.size_replicate]
  have HB1 := Lib.hid (And.intro hB1 (And.intro hbm hs1))
  clear hZ hp hsz hB1 hbm hs1 hr
  subst hW1
  refine callsIn_of_wp_marks Try.func46 rfl trivial ?_ hro
  simp only [Try.ntmps46, List.size_toArray, List.length_cons, List.length_nil, Nat.reduceAdd, Nat.reduceSub, Array.replicate_succ, Array.replicate_zero, List.push_toArray, List.append_toArray, List.nil_append, List.cons_append]
  gi_wp2_with (first
    | (refine ⟨trivial, ?_⟩; gi_at_call 38; refine (callsIn_wide.2 HF.out).mono ?_; rintro e w2 ⟨T, rfl, hT, hTf, hb2⟩; have hst := storeT_new HSZ.out hZs hT)
    | (refine ⟨trivial, ?_⟩; gi_at_call 44; refine (callsIn_wide.2 (ratesFrom_any 1 _)).mono ?_; rintro e w3 ⟨rfl, rfl⟩)
    | (refine ⟨trivial, ?_⟩; gi_at_call 50; refine (callsIn_wide.2 (whileTrue_any _ _ _ _ _)).mono ?_; rintro e w4 ⟨rfl, rfl⟩))
  obtain ⟨hB1, hbm, hs1⟩ := HB1.out
  have hbm2 := boxed_below hbm hb2 hbm.lt
  have hB2 := hB1.trans (hb2.mono hB1.size)
  have hg2 : w.heap.size + 1 ≤ w2.heap.size := by have := hb2.size; omega
  have hTF := Lib.hid hTf
  have ht1 := tab_newR w2 T
  obtain ⟨cs, hcs⟩ : ∃ cs, (T.map (Value.int .i64)).toArray = cs := ⟨_, rfl⟩
  obtain ⟨g, hge⟩ : ∃ g, w2.heap.size = g := ⟨_, rfl⟩
  rw [hcs] at ht1 ⊢
  rw [hge] at ht1 hg2 ⊢
  obtain ⟨V1, hV1⟩ : ∃ V1, w2.alloc (.cells cs 42) = V1 := ⟨_, rfl⟩
  have e1 : V1.heap.size = g + 1 := by rw [← hV1, World.size_alloc, hge]
  have m1 : Boxed V1 w.heap.size 3 (.int .i64 (most : Int)) := by rw [← hV1]; exact hbm2.alloc _
  have B1 : Below w.heap.size w V1 := by rw [← hV1]; exact hB2.alloc (by omega) _
  rw [hV1] at ht1 ⊢
  obtain ⟨V2, hV2⟩ : ∃ V2, V1.alloc (.cells #[.int .i64 0] 3) = V2 := ⟨_, rfl⟩
  have e2 : V2.heap.size = g + 1 + 1 := by rw [← hV2, World.size_alloc, e1]
  have m2 : Boxed V2 w.heap.size 3 (.int .i64 (most : Int)) := by rw [← hV2]; exact m1.alloc _
  have t2 : Tab V2 g T := by rw [← hV2]; exact ht1.alloc _
  have r2 : Boxed V2 (g + 1) 3 (.int .i64 0) := by rw [← hV2, ← e1]; exact Boxed.new _ _ _
  have B2 : Below w.heap.size w V2 := by rw [← hV2]; exact B1.alloc (by omega) _
  rw [hV2]
  obtain ⟨V3, hV3⟩ : ∃ V3, V2.alloc (.cells #[.int .i64 1] 3) = V3 := ⟨_, rfl⟩
  have e3 : V3.heap.size = g + 1 + 1 + 1 := by rw [← hV3, World.size_alloc, e2]
  have m3 : Boxed V3 w.heap.size 3 (.int .i64 (most : Int)) := by rw [← hV3]; exact m2.alloc _
  have t3 : Tab V3 g T := by rw [← hV3]; exact t2.alloc _
  have r3 : Boxed V3 (g + 1) 3 (.int .i64 0) := by rw [← hV3]; exact r2.alloc _
  have f3 : Boxed V3 (g + 1 + 1) 3 (.int .i64 1) := by rw [← hV3, ← e2]; exact Boxed.new _ _ _
  have B3 : Below w.heap.size w V3 := by rw [← hV3]; exact B2.alloc (by omega) _
  rw [hV3]
  obtain ⟨V4, hV4⟩ : ∃ V4, V3.alloc (.cells #[.func (.func 49) #[] #[.pointer (some ⟨g + 1 + 1, 0, none⟩)]] 47) = V4 := ⟨_, rfl⟩
  have e4 : V4.heap.size = g + 1 + 1 + 1 + 1 := by rw [← hV4, World.size_alloc, e3]
  have m4 : Boxed V4 w.heap.size 3 (.int .i64 (most : Int)) := by rw [← hV4]; exact m3.alloc _
  have t4 : Tab V4 g T := by rw [← hV4]; exact t3.alloc _
  have r4 : Boxed V4 (g + 1) 3 (.int .i64 0) := by rw [← hV4]; exact r3.alloc _
  have f4 : Boxed V4 (g + 1 + 1) 3 (.int .i64 1) := by rw [← hV4]; exact f3.alloc _
  have s4 : Boxed V4 (g + 1 + 1 + 1) 47 (.func (.func 49) #[] #[.pointer (some ⟨g + 1 + 1, 0, none⟩)]) := by rw [← hV4, ← e3]; exact Boxed.new _ _ _
  have B4 : Below w.heap.size w V4 := by rw [← hV4]; exact B3.alloc (by omega) _
  rw [hV4]
  obtain ⟨V5, hV5⟩ : ∃ V5, V4.alloc (.cells #[.func (.func 51) #[] #[.pointer (some ⟨g, 0, none⟩), .pointer (some ⟨w.heap.size, 0, none⟩)]] 40) = V5 := ⟨_, rfl⟩
  have e5 : V5.heap.size = g + 1 + 1 + 1 + 1 + 1 := by rw [← hV5, World.size_alloc, e4]
  have m5 : Boxed V5 w.heap.size 3 (.int .i64 (most : Int)) := by rw [← hV5]; exact m4.alloc _
  have t5 : Tab V5 g T := by rw [← hV5]; exact t4.alloc _
  have r5 : Boxed V5 (g + 1) 3 (.int .i64 0) := by rw [← hV5]; exact r4.alloc _
  have f5 : Boxed V5 (g + 1 + 1) 3 (.int .i64 1) := by rw [← hV5]; exact f4.alloc _
  have s5 : Boxed V5 (g + 1 + 1 + 1) 47 (.func (.func 49) #[] #[.pointer (some ⟨g + 1 + 1, 0, none⟩)]) := by rw [← hV5]; exact s4.alloc _
  have h5 : Boxed V5 (g + 1 + 1 + 1 + 1) 40 (.func (.func 51) #[] #[.pointer (some ⟨g, 0, none⟩), .pointer (some ⟨w.heap.size, 0, none⟩)]) := by rw [← hV5, ← e4]; exact Boxed.new _ _ _
  have B5 : Below w.heap.size w V5 := by rw [← hV5]; exact B4.alloc (by omega) _
  rw [hV5]
  clear hV1 hV2 hV3 hV4 hV5 e1 e2 e3 e4 m1 m2 m3 m4 t2 t3 t4 ht1 r2 r3 r4 f3 f4 s4 B1 B2 B3 B4 hB2 hbm2 hB1 hbm hs1 hge hst hb2 hTf HF HB1 HZ HSZ hz hZs
  have HS := Lib.hid (And.intro m5 (And.intro t5 (And.intro r5 (And.intro f5 (And.intro s5 (And.intro h5 B5))))))
  clear m5 t5 r5 f5 s5 h5 B5
  refine range_wide (gf := 53) (lb := #[.pointer (some ⟨g + 1 + 1 + 1, 0, none⟩), .pointer (some ⟨g + 1 + 1 + 1 + 1, 0, none⟩)]) rfl (enters_of Try.func53 (by kernel_rfl) rfl) ?_
  intro l r W1 hl0 hst hpe htm hps has hbo hW1
  obtain ⟨m5, t5, r5, f5, s5, h5, B5⟩ := HS.out
  have hsz1 : W1.heap.size = V5.heap.size + 1 + 1 := by rw [hW1]; simp
  have hL1 : W1.heap[l]? = some (.loop r) := by
    rw [hW1, hl0]; have := World.alloc_heap_new (V5.alloc (.deferred (some []))) (.loop r); rwa [World.size_alloc] at this
  have hK1 : W1.heap[V5.heap.size]? = some (.deferred (some [])) := by
    rw [hW1]; exact (Below.heap_alloc _ _ _ (by simp)).trans (World.alloc_heap_new V5 _)
  have m6 : Boxed W1 w.heap.size 3 (.int .i64 (most : Int)) := by rw [hW1]; exact (m5.alloc _).alloc _
  have t6 : Tab W1 g T := by rw [hW1]; exact (t5.alloc _).alloc _
  have r6 : Boxed W1 (g + 1) 3 (.int .i64 0) := by rw [hW1]; exact (r5.alloc _).alloc _
  have f6 : Boxed W1 (g + 1 + 1) 3 (.int .i64 1) := by rw [hW1]; exact (f5.alloc _).alloc _
  have s6 : Boxed W1 (g + 1 + 1 + 1) 47 (.func (.func 49) #[] #[.pointer (some ⟨g + 1 + 1, 0, none⟩)]) := by rw [hW1]; exact (s5.alloc _).alloc _
  have h6' : Boxed W1 (g + 1 + 1 + 1 + 1) 40 (.func (.func 51) #[] #[.pointer (some ⟨g, 0, none⟩), .pointer (some ⟨w.heap.size, 0, none⟩)]) := by rw [hW1]; exact (h5.alloc _).alloc _
  have B6 : Below w.heap.size w W1 := by rw [hW1]; exact (B5.alloc (by omega) _).alloc (by simp; omega) _
  have hlg : g + 1 < l := by omega
  have hdl : V5.heap.size < l := by omega
  have hdg : g + 1 < V5.heap.size := by omega
  have hgw : w.heap.size < g := by omega
  have HSZ1 := Lib.hid hsz1
  clear m5 t5 r5 f5 s5 h5 B5 hW1 e5 hl0 hsz1 HS
  refine (callsIn_wide.2 (callsIn_wide.1 (whileTrue1_in v T most g w.heap.size (g + 1) l (g + 1 + 1 + 1) (g + 1 + 1 + 1 + 1) (g + 1 + 1) (.loop r) ?_ HP.out h6 hT hTF.out W1 s6 h6' f6 t6 m6 hL1 r6 (by omega) (by omega) (by omega) (by omega)))).mono ?_
  · intro x y W hlW hbW
    refine ⟨r.fn, _, r.assign, r.body, run_yield hlW (by rw [hps]; rfl), roundIn_of_wpIn trivial ?_⟩
    rw [has, hbo, htm, hps]
    have hb1 := grown_round (.loop { r with state := .busy }) hlW hbW (.int .i64 (x.1 : Int))
    have hrr : ({ r with state := .ready, pending := none } : Loop) = r := by cases r; simp_all
    have hne : g + 1 ≠ l := by omega
    have hbb : Boxed (W.putObj l (.loop { r with state := .busy })) (g + 1) 3 (.int .i64 y) := (World.putObj_heap_other hne).trans hbW
    have hlb : (W.putObj l (.loop { r with state := .busy })).heap[l]? = some (.loop { r with state := .busy }) := World.putObj_heap_same (Array.getElem?_eq_some_iff.1 hlW).1
    have hlb2 : ((W.putObj l (.loop { r with state := .busy })).setCell ⟨g + 1, 0, none⟩ (.int .i64 (x.1 : Int))).heap[l]? = some (.loop { r with state := .busy }) := (Below.heap_setCell _ _ _ l (fun e => hne (by rw [e]))).trans hlb
    have hbr := run_beginRound (P := Try.prog) hlW hst
    have her := run_endRound (P := Try.prog) none hlb2
    obtain ⟨Wb, hWb⟩ : ∃ Wb, W.putObj l (.loop { r with state := .busy }) = Wb := ⟨_, rfl⟩
    rw [hWb] at hb1 hbb hbr her
    have hcb := hbb.cell
    have hfb := hbb.frozen
    have HB1 := Lib.hid hb1
    have HRR := Lib.hid hrr
    have HER := Lib.hid her
    have HBR := Lib.hid hbr
    clear hWb hlb hlb2 hbb hb1 hrr her hbr hlW hbW
    gi_wp2
    refine ⟨Wb, HBR.out, ?_⟩
    gi_wp2
    refine ⟨_, _, HER.out, rfl, ?_⟩
    have h9 : ({ ({ r with state := .busy } : Loop) with state := (if (none : Option Code).isNone = true then LoopState.ready else LoopState.done), pending := none } : Loop) = r := HRR.out
    rw [h9]
    exact HB1.out
  · rintro e W2 ⟨⟨u, rfl⟩, hg3, hb3⟩
    have hl2 : W2.heap[l]? = some (.loop r) := (hg3.block l (Array.getElem?_eq_some_iff.1 hL1).1 (fun e => by injection e; omega)).trans hL1
    have hk2 : W2.heap[V5.heap.size]? = some (.deferred (some [])) := (hg3.block _ (by have := HSZ1.out; omega) (fun e => by injection e; omega)).trans hK1
    have hle := run_endLoop (P := Try.prog) hl2 (by rw [hst]; simp)
    rw [hpe] at hle
    have hb4 : Boxed (W2.putObj l (.loop { r with state := .exhausted, pending := none })) (g + 1) 3 (.int .i64 (reachV v most : Int)) := (World.putObj_heap_other (by omega)).trans hb3
    have hk4 : (W2.putObj l (.loop { r with state := .exhausted, pending := none })).heap[V5.heap.size]? = some (.deferred (some [])) := (World.putObj_heap_other (by omega)).trans hk2
    have hB4 : Below w.heap.size w (W2.putObj l (.loop { r with state := .exhausted, pending := none })) :=
      (B6.grown hg3 B6.size (fun k e => by injection e; omega)).grown (grownBy_putObj' W2 l _) (Nat.le_trans B6.size hg3.size) (fun k e => by injection e; omega)
    refine ⟨none, _, hle, ?_⟩
    obtain ⟨W4, hW4⟩ : ∃ W4, W2.putObj l (.loop { r with state := .exhausted, pending := none }) = W4 := ⟨_, rfl⟩
    rw [hW4] at hb4 hk4 hB4 ⊢
    have hc4 := hb4.cell
    have HB4 := Lib.hid hB4
    clear hW4 hle hl2 hk2 hg3 hb3 hB4 hb4 hL1 hK1 m6 t6 r6 f6 s6 h6' B6
    gi_wp2
    refine ⟨by simp, .inl ⟨_, _, rfl, run_takeDeferred hk4, ?_⟩⟩
    exact ⟨_, results_tmp rfl _ _ _, rfl, HB4.out.trans (belowK_b (w := w) (Nat.le_refl _) W4 _ _ _ (by omega) hk4 rfl rfl)⟩
end Go.Proofs.Ytookdmdlpglbcab
