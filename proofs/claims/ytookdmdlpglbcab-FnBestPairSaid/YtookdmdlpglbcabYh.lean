/- NotPaid, both sides. No condition. -/
import Derived.Test.YtookdmdlpglbcabYd
import Derived.Test.YtookdmdlpglbcabS9
import Derived.Test.YtookdmdlpglbcabN9i
import Derived.Maps.AppendAt
namespace Go.Proofs.Ytookdmdlpglbcab
open Go.RowKit
open Go.Shelf
attribute [local go_sem] Oper.semAt_some

/-- What is not paid among some rates. -/
def npOf (v : List Int) (xs : List Nat) : List Int := (xs.filter (fun r => fw v r == -1)).map (fun (r : Nat) => (r : Int))
theorem npOf_yes (v : List Int) (xs : List Nat) {x : Nat} (h : fw v x = -1) : npOf v (xs ++ [x]) = npOf v xs ++ [(x : Int)] := by
  simp [npOf, List.filter_append, h]
theorem npOf_no (v : List Int) (xs : List Nat) {x : Nat} (h : ¬ fw v x = -1) : npOf v (xs ++ [x]) = npOf v xs := by
  simp [npOf, List.filter_append, h]
theorem npOf_len (v : List Int) (xs : List Nat) : (npOf v xs).length ≤ xs.length := by
  simp only [npOf, List.length_map]; exact List.length_filter_le _ _
def npV (v : List Int) : List Int := npOf v (List.range' 1 140)

theorem Tab.not_row {W : World} {B : Nat} {T : List Int} (h : Tab W B T) {base size k : Nat} {v : Value} {xs : List Value} (hr : W.ownsRow base 3 size v k xs) : some B ≠ v.ownBlock := by
  rcases hr.2 with ⟨rfl, _⟩ | ⟨g, cap, cur, rfl, _, hgb, _⟩
  · simp [Value.ownBlock]
  · intro e'
    obtain rfl : B = g := by simpa [Value.ownBlock] using e'
    have := (show W.heap[B]? = _ from h).symm.trans hgb
    simp at this

def NpTab (w : World) (g : Nat) (T : List Int) (zs : List Int) (W : World) : Prop :=
  (Tab W g T ∧ ∃ x, Boxed W (g + 1) 23 x ∧ W.ownsRow w.heap.size 3 1 x zs.length (zs.map (Value.int .i64)) ∧ True) ∧ Below w.heap.size w W
theorem npTab_own {β : Type} (w : World) (g : Nat) (T : List Int) (z : β → List Int) {B : Nat} (hB : w.heap.size ≤ B) : OwnFrom B (fun (b : β) W => NpTab w g T (z b) W) :=
  OwnFrom.and (OwnFrom.and (Own.from (fun _ _ _ _ hs hg hr => hs.keptO hg hr) _) (Own.from (holdsRow_own w.heap.size (g + 1) 23 3 1 (fun b : β => (z b).length) (fun b : β => (z b).map (Value.int .i64)) (fun _ _ => True)) _)) (ownFrom_below (Nat.le_refl _) hB)

set_option maxHeartbeats 4000000 in
theorem notPaid_in (A : Option Addr) (c : Nat) (v : List Int) (w : World) (hr : Ints w w.heap.size A v) (hv : stampsB v = true) :
    CallsIn Fence.wide 8 Try.prog 28 #[.slice A v.length c] w (iRes w (npV v)) := by
  obtain ⟨hz, hsz⟩ := zero_of_info infoT
  obtain ⟨Z, hZ⟩ : ∃ Z : Array Value, Array.replicate 141 (.int .i64 0) = Z := ⟨_, rfl⟩
  obtain ⟨i0, hi0, hz0, hz1, hz2⟩ := info_parts Try.info3
  rw [hZ] at hz
  have HV := Lib.hid hv
  have HZ := Lib.hid hZ
  have HSZ := Lib.hid hsz
  clear hZ hv hsz
  have h1 : 1 ≤ 8 := by omega
  have hro : Fence.wide.round = none := rfl
  have hv12 : ∀ s ∈ v, 1 ≤ s ∧ s ≤ 12 := fun s hs => stamp_mem HV.out hs
  have hl4 : v.length ≤ 100 := by have := stampsB_len HV.out; omega
  have HVA := Lib.hid (impVS_any A c v w hr)
  rw [HV.out] at HVA
  have HF := Lib.hid (fewestOf_any A c v w hr hv12 hl4)
  have hZs : Z.size = 141 := by rw [← HZ.out, Array.size_replicate]
  refine callsIn_of_wp_marks Try.func28 rfl trivial ?_ hro
  simp only [Try.ntmps28, List.size_toArray, List.length_cons, List.length_nil, Nat.reduceAdd, Nat.reduceSub, Array.replicate_succ, Array.replicate_zero, List.push_toArray, List.append_toArray, List.nil_append, List.cons_append]
  gi_wp2_with (first
    | (refine ⟨trivial, ?_⟩; gi_at_call 30; refine (callsIn_wide.2 HVA.out).mono ?_; rintro e w1 ⟨rfl, rfl⟩)
    | (refine ⟨trivial, ?_⟩; gi_at_call 38; refine (callsIn_wide.2 HF.out).mono ?_; rintro e w2 ⟨T, rfl, hT, hTf, hb2⟩; have hst := storeT_new HSZ.out hZs hT)
    | (refine ⟨trivial, ?_⟩; gi_at_call 44; refine (callsIn_wide.2 (ratesFrom_any 1 _)).mono ?_; rintro e w3 ⟨rfl, rfl⟩))
  have hg2 : w.heap.size ≤ w2.heap.size := hb2.size
  obtain ⟨g, hge⟩ : ∃ g, w2.heap.size = g := ⟨_, rfl⟩
  obtain ⟨cs, hcs⟩ : ∃ cs, (T.map (Value.int .i64)).toArray = cs := ⟨_, rfl⟩
  have hbx := Boxed.new (w2.alloc (.cells (T.map (Value.int .i64)).toArray 42)) 23 (.slice none 0 0)
  rw [World.size_alloc, hge] at hbx
  have hI0 : NpTab w g T (npOf v []) (((w2.alloc (.cells (T.map (Value.int .i64)).toArray 42)).alloc (.cells #[.slice none 0 0] 23)).alloc (.cells #[.int .i64 1] 3)) :=
    ⟨⟨by rw [← hge]; exact ((tab_newR w2 T).alloc _).alloc _, .slice none 0 0, hbx.alloc _, World.ownsRow_nil _ _ _ _, trivial⟩, ((hb2.alloc (by omega) _).alloc (by simp; omega) _).alloc (by simp; omega) _⟩
  have hcf := (Boxed.new ((w2.alloc (.cells (T.map (Value.int .i64)).toArray 42)).alloc (.cells #[.slice none 0 0] 23)) 3 (.int .i64 1)).cell
  rw [World.size_alloc, World.size_alloc, hge] at hcf
  have hsz0 : (((w2.alloc (.cells (T.map (Value.int .i64)).toArray 42)).alloc (.cells #[.slice none 0 0] 23)).alloc (.cells #[.int .i64 1] 3)).heap.size = g + 3 := by simp [hge]
  rw [hcs] at hI0 hcf hsz0 ⊢
  rw [hge] at hg2 ⊢
  obtain ⟨W0, hW0⟩ : ∃ W0, ((w2.alloc (.cells cs 42)).alloc (.cells #[.slice none 0 0] 23)).alloc (.cells #[.int .i64 1] 3) = W0 := ⟨_, rfl⟩
  rw [hW0] at hI0 hcf hsz0 ⊢
  have HTF := Lib.hid hTf
  clear hW0 hge hcs hst hb2 hbx hTf HVA HF HZ HSZ hz hZs
  refine wpIn_rangeFunc_ownF hro h1 (gf := 49) (lb := #[.pointer (some ⟨g + 1 + 1, 0, none⟩)]) rfl trivial (enters_of Try.func49 (by kernel_rfl) rfl)
    (rates_stops Fence.wide (8 - 1) trivial hro (by omega) (g + 1 + 1) 1 (by omega) (fun _ _ => True) W0 (by omega) hcf) (fun _ _ => trivial) (fun _ _ _ _ _ _ _ _ => trivial) (Below.refl _ _) (fun _ => rfl)
    (fun pre W => NpTab w g T (npOf v (pre.map (·.1))) W)
    (fun _ _ _ => False)
    (npTab_own w g T (fun pre : List Rate => npOf v (pre.map (·.1))) (by omega))
    (fun _ _ _ _ _ hs _ _ => hs)
    hI0
    (fun x => { tmps := #[.slice A v.length c, undef, .slice none 0 0, .pointer (some ⟨g, 0, none⟩), .pointer (some ⟨g + 1, 0, none⟩), .int .i64 (x.1 : Int), .slice A v.length c, .bool true, .bool false, .slice A v.length c, .agg cs,
      .func (.func 49) #[] #[.pointer (some ⟨g + 1 + 1, 0, none⟩)], .int .i64 (x.1 : Int), undef, undef, undef, undef, undef, undef, undef, undef, undef], defers := [] }) ?assign ?body ?done ?stop
  case assign =>
    intro l x W K hK
    gi_wp2
    exact hK
  case body =>
    rintro l pre x W hI hlen
    obtain ⟨x, hx⟩ := x
    have HI := Lib.hid hI
    obtain ⟨⟨htab, bx, hv, hrow, _⟩, hB⟩ := hI
    have hcx := htab.cell (i := x) (by omega)
    have hTx : tabF T x = fw v x := HTF.out x hx
    rw [hTx] at hcx
    have hx141 : (x : Int) < 141 := by omega
    have hzl : (npOf v (pre.map (·.1))).length ≤ 141 := by have := npOf_len v (pre.map (·.1)); simp only [List.length_map] at this; omega
    have HY := Lib.hid (npOf_yes v (pre.map (·.1)) (x := x))
    have HN := Lib.hid (npOf_no v (pre.map (·.1)) (x := x))
    have HM := Lib.hid (show (pre ++ [(⟨x, hx⟩ : Rate)]).map (·.1) = pre.map (·.1) ++ [x] by rw [List.map_append]; rfl)
    obtain ⟨f, hf⟩ : ∃ f, fw v x = f := ⟨_, rfl⟩
    rw [hf] at hcx HY HN
    obtain ⟨zs, hzs⟩ : ∃ zs, npOf v (pre.map (·.1)) = zs := ⟨_, rfl⟩
    rw [hzs] at hrow hzl HY HN HI
    clear hTx hr hI0 hcf hf hzs
    by_cases hfm : f = -1
    · have HE := Lib.hid (HY.out hfm)
      subst hfm
      obtain ⟨A', c', rfl⟩ := own_form hrow
      have hcv := hv.cell
      have hle : w.heap.size ≤ g + 1 := by omega
      have HTAB := Lib.hid htab
      clear HY HN htab
      gi_wp2_with (gi_at_builtin; refine wpListIn_append_own _ rfl _ _ 23 rfl w.heap.size 3 i0 (.int .i64 0) 1 8 Try.underlying23 hi0 hz0 hz1 hz2 rfl (by decide) _ _ _ rfl (hrow.alloc _) ⟨W.heap.size, 0, none⟩ 1 1 [.int .i64 (x : Int)] rfl rfl (cell_one_new _ _ _) (by simp [Value.oneCell']) (by unfold maxLen; omega) (by omega) (by have := hB.size; simp; omega) ?_; intro v' w1 hown' hgrow _; obtain ⟨g', cap', rfl⟩ := ownsRow_succ hown'; obtain ⟨hv1, hv2, hr2, hk2, hb2⟩ := hv.appended (by decide) hrow hB.size hle hown' hgrow; have hc1 := hv1.cell; have hf1 := hv1.frozen)
      have htab2 : Tab (w1.setCell ⟨g + 1, 0, none⟩ (.slice (some ⟨g', 0, none⟩) (zs.length + 1) cap')) g T := ((HTAB.out.alloc _).kept hgrow (HTAB.out.not_row hrow)).other _ (by omega)
      refine ⟨hk2, trivial, ?_⟩
      show NpTab w g T (npOf v ((pre ++ [(⟨x, hx⟩ : Rate)]).map (·.1))) _
      rw [HM.out, HE.out]
      exact ⟨⟨htab2, _, hv2, by simpa [List.map_append] using hr2, trivial⟩, hB.trans hb2⟩
    · have hfq : (f == -1) = false := beq_eq_false_iff_ne.2 hfm
      have HE := Lib.hid (HN.out hfm)
      clear HY HN htab hv hrow hB
      gi_wp2
      refine ⟨KeepsOthers.refl _, trivial, ?_⟩
      show NpTab w g T (npOf v ((pre ++ [(⟨x, hx⟩ : Rate)]).map (·.1))) _
      rw [HM.out, HE.out]
      exact HI.out
  case done =>
    rintro D ys W hD hys hI hK
    rw [hys] at hI
    obtain ⟨⟨_, bx, hv, hrow, _⟩, hB⟩ := hI
    have hrow : W.ownsRow w.heap.size 3 1 bx (npV v).length ((npV v).map (Value.int .i64)) := hrow
    obtain ⟨zs, hzs⟩ : ∃ zs, npV v = zs := ⟨_, rfl⟩
    rw [hzs] at hrow
    have HZ := Lib.hid hzs
    obtain ⟨A', c', rfl⟩ := own_form hrow
    have hcv := hv.cell
    have hrow2 := ownsRow_putObj hrow (.deferred none) hK rfl
    have HB := Lib.hid (hB.trans (belowK_b (w := w) (Nat.le_refl _) W D (.deferred (some [])) (.deferred none) (by omega) hK rfl rfl))
    clear hzs hv hrow hB hys hI0 hcf
    gi_wp2
    refine ⟨by simp, .inl ⟨_, _, rfl, run_takeDeferred hK, ?_⟩⟩
    obtain ⟨A2, c2, hv2, _, ho⟩ := own_of_row hrow2
    simp only [Value.slice.injEq] at hv2
    obtain ⟨rfl, _, rfl⟩ := hv2
    refine ⟨_, results_tmp rfl _ _ _, ?_⟩
    rw [HZ.out]
    exact ⟨A', c', rfl, own_cap hrow2, ho, HB.out⟩
  case stop =>
    rintro D c' pre W _ _ h _
    exact h.elim

def npaV (v : List Int) : List Int := if stampsB v then npV v else []
theorem npaV_yes {v : List Int} (h : stampsB v = true) : npaV v = npV v := by simp [npaV, h]
theorem npaV_no {v : List Int} (h : stampsB v = false) : npaV v = [] := by simp [npaV, h]
theorem npV_len (v : List Int) : (npV v).length ≤ 140 := Nat.le_trans (npOf_len v _) (by simp)

set_option maxRecDepth 100000 in
set_option maxHeartbeats 1000000 in
theorem impNotPaid_any (A : Option Addr) (c : Nat) (v : List Int) (w : World) (hr : Ints w w.heap.size A v) :
    Calls Try.prog 28 #[.slice A v.length c] w (iRes w (npaV v)) := by
  by_cases hv : stampsB v = true
  · rw [npaV_yes hv]; exact callsIn_wide.1 (notPaid_in A c v w hr hv)
  · have hv' : stampsB v = false := by simpa using hv
    have HVA := Lib.hid (impVS_any A c v w hr)
    rw [hv'] at HVA
    rw [npaV_no hv']
    clear hv hv'
    go_enter Try.func28, Try.ntmps28
    go_wp2_with (go_at_call 30; refine HVA.out.mono ?_; rintro e w1 ⟨rfl, rfl⟩)
    go_ret
    exact ⟨none, 0, rfl, Nat.le_refl _, Own.nil _ _ _ _, Below.refl _ _⟩

set_option maxRecDepth 100000 in
set_option maxHeartbeats 2000000 in
theorem specNotPaid_any (A : Option Addr) (c : Nat) (v : List Int) (w : World) (hr : Ints w w.heap.size A v) (hl : v.length ≤ 9000000000000000000) :
    Calls Try.prog 29 #[.slice A v.length c] w (iRes w (npaV v)) := by
  have HVA := Lib.hid (specVS_E A c v w hr hl)
  by_cases hv : stampsB v = true
  · rw [hv] at HVA
    rw [npaV_yes hv]
    have hv12 : ∀ s ∈ v, 1 ≤ s ∧ s ≤ 12 := fun s hs => stamp_mem hv hs
    have hl4 : v.length ≤ 100 := by have := stampsB_len hv; omega
    have HV := Lib.hid hv12
    clear hv hv12
    obtain ⟨i0, hi0, hz0, hz1, hz2⟩ := info_parts Try.info3
    go_enter Try.func29, Try.ntmps29
    go_wp2_with (go_at_call 39; refine HVA.out.mono ?_; rintro e w1 ⟨rfl, hb1⟩)
    have HF := Lib.hid (specFewest_any A c v 140 w1 (hr.past hb1) HV.out hl4 (by omega))
    go_wp2_with fail
    refine HF.out.mono ?_
    rintro e w2 ⟨A', c', rfl, hcp, ho, hb2⟩
    have hb12 := hb1.trans (hb2.mono hb1.size)
    obtain ⟨b, o, rfl, hbb, hc⟩ := ho.open (by rw [List.length_map, fwT_len]; omega)
    have hcells : ∀ r : Nat, r ≤ 140 → w2.cell? ⟨b, o + r, none⟩ = some (.int .i64 (fw v r)) := by
      intro r hr
      have h1 := ints_at hc (show r < (fwT v 140).length by rw [fwT_len]; omega)
      rw [h1, ← getD_get, fwT_get v 140 hr]
    have HC := Lib.hid hcells
    have HB := Lib.hid hb12
    have HST := Lib.hid (first_lit' w2 w2.heap.size w2.heap.size (Nat.le_refl _) rfl)
    clear hcells hc ho hcp hb12 hb2 hb1 hr HVA HF
    go_wp2
    go_loopw [5, 4] (fun i s wr => ∃ (k : Nat) (A' : Option Addr) (c' : Nat), k ≤ 140 ∧ i = .int .i64 ((k + 1 : Nat) : Int) ∧ s = .slice A' (npOf v (List.range' 1 k)).length c' ∧
        wr.ownsRow w2.heap.size 3 1 (.slice A' (npOf v (List.range' 1 k)).length c') (npOf v (List.range' 1 k)).length ((npOf v (List.range' 1 k)).map (Value.int .i64)) ∧ Below w2.heap.size w2 wr) (fun i _ _ => 142 - (intOf i).toNat)
    case atStart => exact ⟨0, _, _, by omega, rfl, rfl, HST.out, (Below.refl _ _).alloc (Nat.le_refl _) _⟩
    case round =>
      obtain ⟨k, A', c', hk, rfl, rfl, hown, hB⟩ := hrel
      clear HST
      obtain ⟨j, hj⟩ : ∃ j, k + 1 = j := ⟨_, rfl⟩
      rw [hj]
      have HJ := Lib.hid hj
      have hzl : (npOf v (List.range' 1 k)).length ≤ 141 := by have := npOf_len v (List.range' 1 k); simp only [List.length_range'] at this; omega
      have HM := Lib.hid (show List.range' 1 (k + 1) = List.range' 1 k ++ [j] by rw [range'_last, ← hj, Nat.add_comm])
      have HY := Lib.hid (npOf_yes v (List.range' 1 k) (x := j))
      have HN := Lib.hid (npOf_no v (List.range' 1 k) (x := j))
      have HBB := Lib.hid hB
      by_cases hlt : j ≤ 140
      · have hle : (j : Int) ≤ 140 := by omega
        have hcell := (hB.cell (p := ⟨b, o + j, none⟩) hbb).trans (HC.out j hlt)
        have hbw := fw_bd v (fun s hs => (HV.out s hs).1) j
        obtain ⟨f, hf⟩ : ∃ f, fw v j = f := ⟨_, rfl⟩
        obtain ⟨zs, hzs⟩ : ∃ zs, npOf v (List.range' 1 k) = zs := ⟨_, rfl⟩
        rw [hf] at hcell HY HN hbw
        rw [hzs] at hown hzl HY HN ⊢
        have hj141 : (j : Int) < ((140 + 1 : Nat) : Int) := by omega
        clear hf hzs hj hB
        by_cases hfm : f < 0
        · have HE := Lib.hid (HY.out (by omega))
          clear HY HN hbw
          have hbs := HBB.out.size
          go_wp2_with (at_builtin; refine wpList_push rfl (.tmp 21) (.tmp 23) 23 rfl i0 (.int .i64 0) 8 Try.underlying23 hi0 hz0 hz1 hz2 rfl (by decide) _ _ rfl hown [.int .i64 (j : Int)] rfl rfl (by simp [Value.oneCell']) (by omega) (by omega) (by omega) ?_)
          intro A2 c2 w4 hown4 hg4
          have HFF := Lib.hid (And.intro hown4 (HBB.out.grown hg4 HBB.out.size (fun i hi => (hown.lt _ hi).1)))
          clear hown hown4 hg4
          go_wp2
          go_roundw
          case rel => exact ⟨k + 1, A2, c2, by have := HJ.out; omega, by have := HJ.out; go_num, by rw [HM.out, HE.out]; simp, by rw [HM.out, HE.out]; simpa [List.map_append] using HFF.out.1, HFF.out.2⟩
          case measure => simp [intOf]; omega
        · have HE := Lib.hid (HN.out (by omega))
          have HOWN := Lib.hid hown
          clear HY HN hbw hown
          go_wp2
          go_roundw
          case rel => exact ⟨k + 1, A', c', by have := HJ.out; omega, by have := HJ.out; go_num, by rw [HM.out, HE.out], by rw [HM.out, HE.out]; exact HOWN.out, HBB.out⟩
          case measure => simp [intOf]; omega
      · have hk' : k = 140 := by omega
        subst hk'
        have hle : ¬ (j : Int) ≤ 140 := by omega
        have HO := Lib.hid (show npV v = npOf v (List.range' 1 140) from rfl)
        obtain ⟨zs, hzs⟩ : ∃ zs, npOf v (List.range' 1 140) = zs := ⟨_, rfl⟩
        rw [hzs] at hown hzl HO ⊢
        obtain ⟨A2, c2, hv, _, ho⟩ := own_of_row hown
        simp only [Value.slice.injEq] at hv
        obtain ⟨rfl, _, rfl⟩ := hv
        have HCP := Lib.hid (own_cap hown)
        have HOO := Lib.hid (ho.less (base' := w.heap.size + 1) (by have := HB.out.size; omega))
        clear hown hzs hj hB ho
        go_wp2
        go_ret
        rw [HO.out]
        exact ⟨_, _, rfl, HCP.out, HOO.out, HB.out.trans (HBB.out.mono HB.out.size)⟩
  · have hv' : stampsB v = false := by simpa using hv
    rw [hv'] at HVA
    rw [npaV_no hv']
    clear hv hv'
    go_enter Try.func29, Try.ntmps29
    go_wp2_with (go_at_call 39; refine HVA.out.mono ?_; rintro e w1 ⟨rfl, hb1⟩)
    go_ret
    exact ⟨none, 0, rfl, Nat.le_refl _, Own.nil _ _ _ _, hb1⟩
end Go.Proofs.Ytookdmdlpglbcab
