/- reachOf: the rates that hold are handed on. No condition. -/
import Derived.Test.YtookdmdlpglbcabYv
namespace Go.Proofs.Ytookdmdlpglbcab
open Go.RowKit
open Go.Shelf
attribute [local go_sem] Oper.semAt_some

theorem round_wide {m m' : Nat} {P : Program} {l l2 : Nat} {f : FuncId} {tmps : Array Value} {assign body : Code} {w : World} {R : Ending → World → Prop}
    (h : RoundIn Fence.wide m P l f tmps assign body w R) : RoundIn (Fence.wide.inRound l2) m' P l f tmps assign body w R := ⟨h.1, fun c cs _ => h.2 c cs (room_wide _)⟩

def lastR (pre : List Rate) : Int := (((pre.map (·.1)).getLast?.getD 0 : Nat) : Int)
theorem lastR_snoc (pre : List Rate) (x : Rate) : lastR (pre ++ [x]) = (x.1 : Int) := by simp [lastR]
theorem lastR_range {pre : List Rate} {k : Nat} (h : pre.map (·.1) = List.range' 1 k) : lastR pre = (k : Int) := by
  rw [lastR, h]
  cases k with
  | zero => rfl
  | succ k => rw [range'_last]; simp; omega
/-- Between two rounds. -/
def RcTab (Wi : World) (br : Nat) (x : Int) (W : World) : Prop := Wi.grownBy W (some br) ∧ Boxed W br 3 (.int .i64 x)
theorem rcTab_own {β : Type} (Wi : World) (br : Nat) (x : β → Int) : OwnFrom Wi.heap.size (fun (b : β) W => RcTab Wi br (x b) W) := fun _ _ _ _ hs hg hr =>
  ⟨g_new hs.1 hg (fun i e => (hr i e).1), boxed_keptO hs.2 hg (fun r e => (hr r e).2)⟩
theorem keepsOthers_grown {W W' : World} {br : Nat} {t : TypeId} {x : Value} (h : Boxed W br t x) (hg : W.grownBy W' (some br)) : KeepsOthers W W' :=
  KeepsOthers.of_grownBy hg (fun j o e hj => by cases e; rw [show W.heap[br]? = _ from h] at hj; cases hj; rfl)
theorem grown_drewN {a b : World} {row : Option Nat} (h : a.grownBy b row) (n : Nat) : a.grownBy (b.drewN n) row := ⟨h.os, h.tape, h.output, h.size, h.block⟩

set_option maxHeartbeats 4000000 in
theorem whileTrue1_in (v : List Int) (T : List Int) (most bt bm br l0 b1 b2 bf : Nat) (R0 : Obj)
    (hY : ∀ (x : Rate) (y : Int) (W : World), W.heap[l0]? = some R0 → Boxed W br 3 (.int .i64 y) → YieldAt Fence.wide 0 Try.prog l0 (encR x) W fun e W' => e = .returned (.bool true) ∧ W.grownBy W' (some br) ∧ Boxed W' br 3 (.int .i64 (x.1 : Int)))
    (hp : ∀ s ∈ v, 1 ≤ s ∧ s ≤ 12) (h6 : most ≤ 6) (hT : T.length = 141) (hTf : ∀ i, i ≤ 140 → T.getD i 0 = fw v i) (W : World)
    (hb1 : Boxed W b1 47 (.func (.func 49) #[] #[.pointer (some ⟨bf, 0, none⟩)])) (hb2 : Boxed W b2 40 (.func (.func 51) #[] #[.pointer (some ⟨bt, 0, none⟩), .pointer (some ⟨bm, 0, none⟩)]))
    (hbf : Boxed W bf 3 (.int .i64 1)) (htab : Tab W bt T) (hbm : Boxed W bm 3 (.int .i64 (most : Int))) (hl0 : W.heap[l0]? = some R0) (hbr : Boxed W br 3 (.int .i64 0))
    (n2 : b2 ≠ br) (nt : bt ≠ br) (nm : bm ≠ br) (nl : l0 ≠ br) :
    CallsIn Fence.wide 8 Try.prog 53 #[.func (.yield l0) #[] #[], .pointer (some ⟨b1, 0, none⟩), .pointer (some ⟨b2, 0, none⟩)] W fun e W' => (∃ u, e = .returned u) ∧ W.grownBy W' (some br) ∧ Boxed W' br 3 (.int .i64 (reachV v most : Int)) := by
  have h1 : 1 ≤ 8 := by omega
  have hro : Fence.wide.round = none := rfl
  have HP := Lib.hid hp
  have HTF := Lib.hid hTf
  have HY := Lib.hid hY
  obtain ⟨Wi, hWi⟩ : ∃ Wi, W.alloc (.cells #[.func (.yield l0) #[] #[]] 40) = Wi := ⟨_, rfl⟩
  have hby : Boxed Wi W.heap.size 40 (.func (.yield l0) #[] #[]) := by rw [← hWi]; exact Boxed.new _ _ _
  have hb1' : Boxed Wi b1 47 (.func (.func 49) #[] #[.pointer (some ⟨bf, 0, none⟩)]) := by rw [← hWi]; exact hb1.alloc _
  have hb2' : Boxed Wi b2 40 (.func (.func 51) #[] #[.pointer (some ⟨bt, 0, none⟩), .pointer (some ⟨bm, 0, none⟩)]) := by rw [← hWi]; exact hb2.alloc _
  have hbf' : Boxed Wi bf 3 (.int .i64 1) := by rw [← hWi]; exact hbf.alloc _
  have htab' : Tab Wi bt T := by rw [← hWi]; exact htab.alloc _
  have hbm' : Boxed Wi bm 3 (.int .i64 (most : Int)) := by rw [← hWi]; exact hbm.alloc _
  have hbr' : Boxed Wi br 3 (.int .i64 0) := by rw [← hWi]; exact hbr.alloc _
  have hl0' : Wi.heap[l0]? = some R0 := by rw [← hWi]; exact (Below.heap_alloc _ _ _ (Array.getElem?_eq_some_iff.1 hl0).1).trans hl0
  have hgi : W.grownBy Wi (some br) := by rw [← hWi]; exact World.grownBy_alloc W _ _
  have hyr : W.heap.size ≠ br := fun e => by have := hbr.lt; omega
  have hszi : Wi.heap.size = W.heap.size + 1 := by rw [← hWi]; simp
  have hc1i := (hb1.alloc (.cells #[.func (.yield l0) #[] #[]] 40)).cell
  have hcf := hbf'.cell
  have hbfl := hbf'.lt
  have HB := Lib.hid (And.intro hby (And.intro hb2' (And.intro htab' (And.intro hbm' (And.intro hbr' (And.intro hl0' hgi))))))
  clear hp hTf hY hby hb1' hb2' hbf' htab' hbm' hbr' hl0' hgi hb1 hb2 hbf htab hbm hl0 hbr
  refine callsIn_of_wp_marks Try.func53 rfl trivial ?_ hro
  simp only [Try.ntmps53, List.size_toArray, List.length_cons, List.length_nil, Nat.reduceAdd, Nat.reduceSub, Array.replicate_succ, Array.replicate_zero, List.push_toArray, List.append_toArray, List.nil_append, List.cons_append]
  have HWI := Lib.hid hWi
  clear hWi
  gi_wp2
  rw [HWI.out]
  clear hc1i
  refine wpIn_rangeFunc_ownF hro h1 (gf := 49) (lb := #[.pointer (some ⟨bf, 0, none⟩)]) rfl trivial (enters_of Try.func49 (by kernel_rfl) rfl)
    (rates_stops Fence.wide (8 - 1) trivial hro (by omega) bf 1 (by omega) (fun _ _ => True) Wi hbfl hcf) (fun _ _ => trivial) (fun _ _ _ _ _ _ _ _ => trivial) (Below.refl _ _) (fun _ => rfl)
    (fun pre X => RcTab Wi br (lastR pre) X ∧ ∀ x ∈ pre.map (·.1), goodR v most x = true)
    (fun c' pre X => ∃ (pre0 : List Rate) (x : Rate), c' = .ret ∧ pre = pre0 ++ [x] ∧ (∀ y ∈ pre0.map (·.1), goodR v most y = true) ∧ goodR v most x.1 = false ∧ RcTab Wi br (lastR pre0) X)
    (OwnFrom.and (rcTab_own Wi br lastR) (ownFrom_of (fun pre : List Rate => ∀ x ∈ pre.map (·.1), goodR v most x = true)))
    (fun c' s X Y row hs hg hr => by
      obtain ⟨pre0, x, h1, h2, h3, h4, h5⟩ := hs
      exact ⟨pre0, x, h1, h2, h3, h4, rcTab_own Wi br (fun _ : List Rate => lastR pre0) s X Y row h5 hg hr⟩)
    ⟨⟨World.grownBy.refl _ _, HB.out.2.2.2.2.1⟩, fun x hx => by simp at hx⟩
    (fun x => { tmps := #[.func (.yield l0) #[] #[], .pointer (some ⟨b1, 0, none⟩), .pointer (some ⟨b2, 0, none⟩), .pointer (some ⟨W.heap.size, 0, none⟩), .int .i64 (x.1 : Int), .func (.func 49) #[] #[.pointer (some ⟨bf, 0, none⟩)], .int .i64 (x.1 : Int), undef, undef, undef, undef, undef, undef, undef, undef, undef, undef], defers := [] }) ?assign ?body ?done ?stop
  case assign =>
    intro l x X K hK
    gi_wp2
    exact hK
  case body =>
    rintro l pre x X ⟨⟨hgr, hbx⟩, hall⟩ hlen
    obtain ⟨hby, hb2, htab, hbm, _, hl0, _⟩ := HB.out
    have kept : ∀ {b : Nat} {t : TypeId} {u : Value}, Boxed Wi b t u → b ≠ br → Boxed X b t u := fun h hn => h.kept hgr (fun e => hn (by injection e))
    have hcy := (kept hby hyr).cell
    have hch := (kept hb2 n2).cell
    have HH := Lib.hid (holds_any v T x.1 most bt bm X x.2 (fun s hs => (HP.out s hs).1) (htab.kept hgr (fun e => nt (by injection e))) hT HTF.out (kept hbm nm))
    have hlX : X.heap[l0]? = some R0 := (hgr.block l0 (Array.getElem?_eq_some_iff.1 hl0).1 (fun e => nl (by injection e))).trans hl0
    have HYY := Lib.hid (fun n => HY.out x _ (X.drewN n) hlX hbx)
    have HI := Lib.hid (And.intro hgr hbx)
    have HALL := Lib.hid hall
    have HL := Lib.hid (lastR_snoc pre x)
    obtain ⟨x, hx⟩ := x
    simp only at HH HYY HL
    cases hg : goodR v most x with
    | false =>
      rw [hg] at HH
      have HG := Lib.hid hg
      clear hg hby hb2 htab hbm hl0 kept hgr hbx hall hlX
      gi_wp2_with (refine ⟨trivial, ?_⟩; gi_at_call 51; refine (CallsIn.inRound l (callsIn_wide.2 HH.out)).mono ?_; rintro e w' ⟨rfl, n, rfl⟩; have hcy2 : (X.drewN n).cell? ⟨W.heap.size, 0, none⟩ = some (.func (.yield l0) #[] #[]) := hcy)
      refine ⟨fun _ h => (by cases h), ?_⟩
      gi_wp2
      exact ⟨⟨Nat.le_refl _, fun _ _ h _ => h⟩, pre, ⟨x, hx⟩, rfl, rfl, HALL.out, HG.out, grown_drewN HI.out.1 _, HI.out.2⟩
    | true =>
      rw [hg] at HH
      have HG := Lib.hid hg
      clear hg hby hb2 htab hbm hl0 kept hgr hbx hall hlX
      gi_wp2_with (refine ⟨trivial, ?_⟩; gi_at_call 51; refine (CallsIn.inRound l (callsIn_wide.2 HH.out)).mono ?_; rintro e w' ⟨rfl, n, rfl⟩; have hcy2 : (X.drewN n).cell? ⟨W.heap.size, 0, none⟩ = some (.func (.yield l0) #[] #[]) := hcy; obtain ⟨fn, tmps, assign, body, hy, hR⟩ := HYY.out n; dsimp only [encR] at hy)
      refine (round_wide hR).mono ?_
      rintro e X2 ⟨rfl, hg2, hb2⟩
      have HX := Lib.hid (And.intro hg2 hb2)
      clear hg2 hb2 hR hy
      gi_wp2
      refine ⟨(show KeepsOthers X (X.drewN n) from ⟨Nat.le_refl _, fun _ _ h _ => h⟩).trans (keepsOthers_grown (br := br) HI.out.2 HX.out.1), trivial, ⟨?_, ?_⟩⟩
      · rw [HL.out]; exact ⟨grown_trans (grown_drewN HI.out.1 n) HX.out.1, HX.out.2⟩
      · intro y hyy
        rw [List.map_append] at hyy
        rcases List.mem_append.1 hyy with hyy | hyy
        · exact HALL.out y hyy
        · simp at hyy; subst hyy; exact HG.out
  case done =>
    rintro D ys X hD hys ⟨hI, hall⟩ hK
    exfalso
    have h1 := hall 140 (by rw [hys]; exact List.mem_range'.2 ⟨139, by omega, by omega⟩)
    have h2 := good_past (v := v) (most := most) (fun s hs => (HP.out s hs).1) (fun s hs => (HP.out s hs).2) (by omega) (r := 140) (by omega)
    rw [h1] at h2; cases h2
  case stop =>
    rintro D c' pre X hD ⟨k, hk, hpre⟩ ⟨pre0, x, rfl, rfl, hall, hbad, hI⟩ hK
    rw [List.map_append] at hpre
    obtain ⟨hxk, hp0⟩ := last_of_range hpre rfl
    have hxk' : x.1 + 1 = 1 + k := hxk
    have HR := Lib.hid (reach_found HP.out h6)
    have hre : IsReach v most (k - 1) := ⟨fun j hj1 hj2 => hall j (by rw [hp0]; exact List.mem_range'.2 ⟨j - 1, by omega, by omega⟩), by
      have : k - 1 + 1 = x.1 := by
        cases k with
        | zero => simp at hpre
        | succ k => omega
      rw [this]; exact hbad⟩
    have he := IsReach.unique HR.out hre
    have hlr : lastR pre0 = (reachV v most : Int) := by rw [he]; exact lastR_range hp0
    rw [hlr] at hI
    have HI2 := Lib.hid hI
    have HGI := Lib.hid HB.out.2.2.2.2.2.2
    clear hpre hp0 hxk hxk' hre he hlr hI hall hbad
    gi_wp2
    refine ⟨by simp, .inl ⟨_, _, rfl, run_takeDeferred hK, ?_⟩⟩
    have h3 := rcTab_own Wi br (fun _ : Unit => (reachV v most : Int)) () X _ (some D) HI2.out (grownBy_putObj' X D (.deferred none)) (fun r e => by cases e; exact ⟨by omega, _, hK, rfl⟩)
    exact ⟨_, results_none rfl _ _ _, ⟨_, rfl⟩, grown_trans HGI.out h3.1, h3.2⟩
end Go.Proofs.Ytookdmdlpglbcab
