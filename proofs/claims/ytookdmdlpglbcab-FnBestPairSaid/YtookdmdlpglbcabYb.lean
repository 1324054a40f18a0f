/- greedyOf. No condition. -/
import Derived.Test.YtookdmdlpglbcabYa
namespace Go.Proofs.Ytookdmdlpglbcab
open Go.RowKit
open Go.Shelf
attribute [local go_sem] Oper.semAt_some

/-- Between two rounds: the two boxes. -/
def GreTab (w : World) (p : Int × Int) (W : World) : Prop :=
  (Boxed W w.heap.size 3 (.int .i64 p.1) ∧ Boxed W (w.heap.size + 1) 3 (.int .i64 p.2)) ∧ Below w.heap.size w W
theorem greTab_own {β : Type} (w : World) (p : β → Int × Int) {B : Nat} (hB : w.heap.size ≤ B) : OwnFrom B (fun (b : β) W => GreTab w (p b) W) :=
  OwnFrom.and (Own.from (fun _ _ _ _ hs hg hr => ⟨boxed_keptO hs.1 hg hr, boxed_keptO hs.2 hg hr⟩) _) (ownFrom_below (Nat.le_refl _) hB)

theorem greTab_step {w : World} {p : Int × Int} {W : World} (h : GreTab w p W) (x y : Int) :
    KeepsOthers W ((W.setCell ⟨w.heap.size, 0, none⟩ (.int .i64 x)).setCell ⟨w.heap.size + 1, 0, none⟩ (.int .i64 y)).drew ∧ KeepB w.heap.size (w.heap.size + 1 + 1) W ((W.setCell ⟨w.heap.size, 0, none⟩ (.int .i64 x)).setCell ⟨w.heap.size + 1, 0, none⟩ (.int .i64 y)).drew ∧
      GreTab w (x, y) ((W.setCell ⟨w.heap.size, 0, none⟩ (.int .i64 x)).setCell ⟨w.heap.size + 1, 0, none⟩ (.int .i64 y)).drew := by
  refine ⟨((KeepsOthers.setCell _ _ _).trans (KeepsOthers.setCell _ _ _)).trans (KeepsOthers.drew _), ?_, ?_⟩
  · exact (KeepB.setCell w.heap.size (w.heap.size + 1 + 1) W (i := 0) (.int .i64 x) (Nat.le_refl _) (by omega)).trans (KeepB.setCell w.heap.size (w.heap.size + 1 + 1) _ (i := 0) (.int .i64 y) (by omega) (by omega))
  · have hb := (h.2.setCell (p := ⟨w.heap.size, 0, none⟩) (Nat.le_refl _) (.int .i64 x)).setCell (p := ⟨w.heap.size + 1, 0, none⟩) (by simp) (.int .i64 y)
    refine ⟨⟨?_, ?_⟩, hb.trans ((Below.refl _ _).drew)⟩
    · exact boxed_otherO (h.1.1.set (.int .i64 x)) (c := w.heap.size + 1) (i := 0) (.int .i64 y) (by omega)
    · exact (boxed_otherO h.1.2 (c := w.heap.size) (i := 0) (.int .i64 x) (by omega)).set (.int .i64 y)

set_option maxHeartbeats 4000000 in
theorem greedyOf_in (A : Option Addr) (c : Nat) (v : List Int) (rate : Int) (w : World) (hr : Ints w w.heap.size A v) (hp : ∀ s ∈ v, 1 ≤ s ∧ s ≤ 12) (hl : v.length ≤ 100) (h0 : 0 ≤ rate) (h140 : rate ≤ 140) :
    CallsIn Fence.wide 5 Try.prog 42 #[.slice A v.length c, .int .i64 rate] w fun e W' => e = .returned (.int .i64 (gr v rate)) ∧ Below w.heap.size w W' := by
  have h1 : 1 ≤ 5 := by omega
  have hro : Fence.wide.round = none := rfl
  refine callsIn_of_wp_marks Try.func42 rfl trivial ?_ hro
  simp only [Try.ntmps42, List.size_toArray, List.length_cons, List.length_nil, Nat.reduceAdd, Nat.reduceSub, Array.replicate_succ, Array.replicate_zero, List.push_toArray, List.append_toArray, List.nil_append, List.cons_append]
  gi_wp2_with (refine ⟨trivial, ?_⟩; gi_at_call 48; refine (callsIn_wide.2 (backward_any _ _ _ _)).mono ?_; rintro e w' ⟨rfl, rfl⟩)
  have b1 := Boxed.new w 3 (.int .i64 0)
  have b2 := Boxed.new (w.alloc (.cells #[.int .i64 0] 3)) 3 (.int .i64 rate)
  have b3 := Boxed.new ((w.alloc (.cells #[.int .i64 0] 3)).alloc (.cells #[.int .i64 rate] 3)) 23 (.slice A v.length c)
  simp only [World.size_alloc] at b2 b3
  have hB0 : Below w.heap.size w (((w.alloc (.cells #[.int .i64 0] 3)).alloc (.cells #[.int .i64 rate] 3)).alloc (.cells #[.slice A v.length c] 23)) :=
    ((((Below.refl _ w).alloc (Nat.le_refl _) _).alloc (by simp) _).alloc (by simp; omega) _)
  have hI0 : GreTab w (0, rate) (((w.alloc (.cells #[.int .i64 0] 3)).alloc (.cells #[.int .i64 rate] 3)).alloc (.cells #[.slice A v.length c] 23)) :=
    ⟨⟨(b1.alloc _).alloc _, b2.alloc _⟩, hB0⟩
  have hsz0 : (((w.alloc (.cells #[.int .i64 0] 3)).alloc (.cells #[.int .i64 rate] 3)).alloc (.cells #[.slice A v.length c] 23)).heap.size = w.heap.size + 3 := by simp
  have hc3 := b3.cell
  clear b1 b2 b3
  obtain ⟨W0, hW0⟩ : ∃ W0, (((w.alloc (.cells #[.int .i64 0] 3)).alloc (.cells #[.int .i64 rate] 3)).alloc (.cells #[.slice A v.length c] 23)) = W0 := ⟨_, rfl⟩
  rw [hW0] at hB0 hI0 hsz0 hc3 ⊢
  clear hW0
  have HP := Lib.hid hp
  refine wpIn_rangeFunc_ownF hro h1 (gf := 52) (lb := #[.pointer (some ⟨w.heap.size + 1 + 1, 0, none⟩)]) rfl trivial (enters_of Try.func52 (by kernel_rfl) rfl)
    (backward_stops Fence.wide (5 - 1) trivial hro (by omega) (w.heap.size + 1 + 1) w.heap.size A c v HP.out hl W0 (by omega) (by omega) hc3 (hr.below hB0)) (fun h k => KeepB.trans h k) (keepB_put _ _ (by omega) (by omega)) (Below.refl _ _) (fun _ => rfl)
    (fun pre W => GreTab w ((pre.map (·.1.2)).foldl gStep (0, rate)) W)
    (fun _ _ _ => False)
    (greTab_own _ (fun pre : List PS => (pre.map (·.1.2)).foldl gStep (0, rate)) (by omega))
    (fun _ _ _ _ _ hs _ _ => hs)
    hI0
    (fun x => { tmps := #[.slice A v.length c, .int .i64 rate, undef, undef, .int .i64 0, .pointer (some ⟨w.heap.size, 0, none⟩), .pointer (some ⟨w.heap.size + 1, 0, none⟩), undef, .int .i64 x.1.2, .int .i64 rate, .slice A v.length c,
      .func (.func 52) #[] #[.pointer (some ⟨w.heap.size + 1 + 1, 0, none⟩)], .int .i64 (x.1.1 : Int), .int .i64 x.1.2, undef, undef, undef, undef, undef, undef, undef, undef, undef, undef, undef], defers := [] }) ?assign ?body ?done ?stop
  case assign =>
    intro l x W K hK
    gi_wp2
    exact hK
  case body =>
    rintro l pre x W hI hlen
    obtain ⟨⟨i, s⟩, hs1, hs2⟩ := x
    simp only at hs1 hs2
    have HN := Lib.hid (show ((pre ++ [(⟨(i, s), hs1, hs2⟩ : PS)]).map (·.1.2)).foldl gStep (0, rate) = gStep ((pre.map (·.1.2)).foldl gStep (0, rate)) s by rw [List.map_append, List.foldl_append]; rfl)
    have hbd := gfold_bd (pre.map (·.1.2)) (fun t ht => by obtain ⟨y, _, rfl⟩ := List.mem_map.1 ht; exact y.2.1) 0 rate (Int.le_refl _) h0
    obtain ⟨p, hpe⟩ : ∃ p, (pre.map (·.1.2)).foldl gStep (0, rate) = p := ⟨_, rfl⟩
    rw [hpe] at HN hbd hI
    obtain ⟨a, r⟩ := p
    have HI := Lib.hid hI
    obtain ⟨⟨hb1, hb2⟩, hB⟩ := hI
    simp only at hbd hb1 hb2
    obtain ⟨ha, hr0, har⟩ := hbd
    have hq0 : 0 ≤ r / s := Int.ediv_nonneg hr0 (by omega)
    have hq1 : r / s ≤ r := Int.ediv_le_self _ hr0
    have hm0 : 0 ≤ r % s := Int.emod_nonneg _ (by omega)
    have hm1 : r % s < s := Int.emod_lt_of_pos _ (by omega)
    have hsz : ¬ s = 0 := by omega
    have htd : Int.tdiv r s = r / s := quo_ok hr0
    have htm : Int.tmod r s = r % s := rem_ok hr0
    have hw1 : IntKind.i64.wrap (r / s) = r / s := IntWalk.i64_in _ (by omega)
    have hw2 : IntKind.i64.wrap (r % s) = r % s := IntWalk.i64_in _ (by omega)
    have hw3 : IntKind.i64.wrap (a + r / s) = a + r / s := IntWalk.i64_in _ (by omega)
    have hc1 := hb1.cell
    have hc2 := hb2.cell
    have hf1 := hb1.frozen
    have hf2 := hb2.frozen
    have HST := Lib.hid (greTab_step HI.out (a + r / s) (r % s))
    clear hpe hb1 hb2 hB hr hI0 hB0 hc3
    have hmx : Try.prog.follows .mixedOrders = true := by kernel_rfl
    gi_wp2
    gi_region_with_o (fail)
    all_goals gi_wp2
    all_goals exact ⟨HST.out.1, HST.out.2.1, by show GreTab w (((pre ++ [(⟨(i, s), hs1, hs2⟩ : PS)]).map (·.1.2)).foldl gStep (0, rate)) _; rw [HN.out]; exact HST.out.2.2⟩
  case done =>
    rintro D ys W hD hys ⟨⟨hb1, hb2⟩, hB⟩ hK
    rw [hys] at hb1 hb2
    have HG := Lib.hid (show gr v rate = if ((v.reverse).foldl gStep (0, rate)).2 > 0 then -1 else ((v.reverse).foldl gStep (0, rate)).1 from rfl)
    obtain ⟨p, hpe⟩ : ∃ p, (v.reverse).foldl gStep (0, rate) = p := ⟨_, rfl⟩
    rw [hpe] at HG hb1 hb2
    obtain ⟨a, r⟩ := p
    simp only at hb1 hb2
    have hc1 := hb1.cell
    have hc2 := hb2.cell
    have HB := Lib.hid (hB.trans (belowK_b (w := w) (Nat.le_refl _) W D (.deferred (some [])) (.deferred none) (by omega) hK rfl rfl))
    clear hpe hb1 hb2 hB hr hI0 hB0 hc3
    by_cases hr0 : 0 < r
    · have HE := Lib.hid (show gr v rate = -1 by rw [HG.out, if_pos hr0])
      gi_wp2
      refine ⟨by simp, .inl ⟨_, _, rfl, run_takeDeferred hK, ?_⟩⟩
      exact ⟨_, results_tmp rfl _ _ _, by rw [HE.out]; rfl, HB.out⟩
    · have HE := Lib.hid (show gr v rate = a by rw [HG.out, if_neg hr0])
      gi_wp2
      refine ⟨by simp, .inl ⟨_, _, rfl, run_takeDeferred hK, ?_⟩⟩
      exact ⟨_, results_tmp rfl _ _ _, by rw [HE.out]; rfl, HB.out⟩
  case stop =>
    rintro D c' pre W _ _ h _
    exact h.elim

theorem greedyOf_any (A : Option Addr) (c : Nat) (v : List Int) (rate : Int) (w : World) (hr : Ints w w.heap.size A v) (hp : ∀ s ∈ v, 1 ≤ s ∧ s ≤ 12) (hl : v.length ≤ 100) (h0 : 0 ≤ rate) (h140 : rate ≤ 140) :
    Calls Try.prog 42 #[.slice A v.length c, .int .i64 rate] w fun e W' => e = .returned (.int .i64 (gr v rate)) ∧ Below w.heap.size w W' :=
  callsIn_wide.1 (greedyOf_in A c v rate w hr hp hl h0 h140)

set_option maxRecDepth 100000 in
set_option maxHeartbeats 1000000 in
theorem impGreedyStamps_any (A : Option Addr) (c : Nat) (zs : List Int) (rate : Int) (w : World) (hr : Ints w w.heap.size A zs) :
    Calls Try.prog 15 #[.slice A zs.length c, .int .i64 rate] w fun e w' => e = .returned (.int .i64 (greV zs rate)) ∧ Below w.heap.size w w' := by
  have HVA := Lib.hid (impVS_any A c zs w hr)
  by_cases hv : stampsB zs = true
  · rw [hv] at HVA
    have HV := Lib.hid hv
    by_cases hk : inR rate 0 140 = true
    · have hkb := inRI.1 hk
      have HE := Lib.hid (greV_yes hv hk)
      have HIR := Lib.hid (fun W => isRateE rate true hk W)
      clear hv hk
      go_enter Try.func15, Try.ntmps15
      have HF := Lib.hid (greedyOf_any A c zs rate w hr (fun s hs => stamp_mem HV.out hs) (by have := stampsB_len HV.out; omega) hkb.1 hkb.2)
      go_wp2_with (first | (go_at_call 30; refine HVA.out.mono ?_; rintro e w1 ⟨rfl, rfl⟩) | (go_at_call 37; refine (HIR.out _).mono ?_; rintro e w' ⟨rfl, rfl⟩) | (go_at_call 42; refine HF.out.mono ?_; rintro e w2 ⟨rfl, hb2⟩))
      go_ret
      exact ⟨ret_int HE.out.symm, hb2⟩
    · have hk' : inR rate 0 140 = false := by simpa using hk
      have HE := Lib.hid (greV_no (v := zs) (r := rate) (.inr hk'))
      have HIR := Lib.hid (fun W => isRateE rate false hk' W)
      clear hv hk hk'
      go_enter Try.func15, Try.ntmps15
      go_wp2_with (first | (go_at_call 30; refine HVA.out.mono ?_; rintro e w1 ⟨rfl, rfl⟩) | (go_at_call 37; refine (HIR.out _).mono ?_; rintro e w' ⟨rfl, rfl⟩))
      go_ret
      exact ⟨ret_int HE.out.symm, Below.refl _ _⟩
  · have hv' : stampsB zs = false := by simpa using hv
    rw [hv'] at HVA
    have HE := Lib.hid (greV_no (v := zs) (r := rate) (.inl hv'))
    clear hv hv'
    go_enter Try.func15, Try.ntmps15
    go_wp2_with (go_at_call 30; refine HVA.out.mono ?_; rintro e w1 ⟨rfl, rfl⟩)
    go_ret
    exact ⟨ret_int HE.out.symm, Below.refl _ _⟩
end Go.Proofs.Ytookdmdlpglbcab
