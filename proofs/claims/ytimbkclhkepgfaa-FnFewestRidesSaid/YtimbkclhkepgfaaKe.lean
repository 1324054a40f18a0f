/- Coaches are turned round. No condition. -/
import Derived.Test.YtimbkclhkepgfaaKd
import Derived.Outline
namespace Go.Proofs.Ytimbkclhkepgfaa
open Go.RowKit

theorem flatC_set (L : List Coach) (k : Nat) (x : Coach) : flatC (L.set k x) = ((((flatC L).set (k * 4) (.int .i64 x.fr)).set (k * 4 + 1) (.int .i64 x.lv)).set (k * 4 + 2) (.int .i64 x.to)).set (k * 4 + 3) (.int .i64 x.cm) := by
  induction L generalizing k with
  | nil => rfl
  | cons c L ih =>
    cases k with
    | zero => rfl
    | succ k =>
      rw [List.set_cons_succ, flatC_cons, ih, flatC_cons]
      rw [show (k + 1) * 4 = k * 4 + 4 by omega]
      rfl
theorem own_setC {w : World} {base B b o : Nat} {L : List Coach} (h : Own w (base + 1) B (some ⟨b, o, none⟩) (flatC L)) (k : Nat) (x : Coach) :
    Own ((((w.setCell ⟨b, o + k * 4, none⟩ (.int .i64 x.fr)).setCell ⟨b, o + k * 4 + 1, none⟩ (.int .i64 x.lv)).setCell ⟨b, o + k * 4 + 2, none⟩ (.int .i64 x.to)).setCell ⟨b, o + k * 4 + 3, none⟩ (.int .i64 x.cm)) (base + 1) B (some ⟨b, o, none⟩) (flatC (L.set k x)) := by
  rw [flatC_set]
  have h1 := ((((h.set (k * 4) (.int .i64 x.fr)).set (k * 4 + 1) (.int .i64 x.lv))).set (k * 4 + 2) (.int .i64 x.to)).set (k * 4 + 3) (.int .i64 x.cm)
  simpa only [Nat.add_assoc] using h1
/-- The first i and the last i exchanged. -/
def rvL (cs : List Coach) (i : Nat) : List Coach := (List.range cs.length).map fun p => if p < i ∨ cs.length ≤ p + i then cs.getD (cs.length - 1 - p) ⟨0, 0, 0, 0⟩ else cs.getD p ⟨0, 0, 0, 0⟩
theorem rvL_length (cs : List Coach) (i : Nat) : (rvL cs i).length = cs.length := by simp [rvL]
theorem getDC {cs : List Coach} {p : Nat} (h : p < cs.length) : cs.getD p ⟨0, 0, 0, 0⟩ = cs[p] := by simp [List.getD, List.getElem?_eq_getElem h]
theorem rvL_zero (cs : List Coach) : rvL cs 0 = cs := by
  apply List.ext_getElem (rvL_length _ _)
  intro p h1 h2
  simp only [rvL, List.getElem_map, List.getElem_range]
  rw [if_neg (by omega), getDC h2]
theorem rvL_get {cs : List Coach} {i p : Nat} (hp : p < cs.length) : (rvL cs i)[p]'(by rw [rvL_length]; exact hp) = if p < i ∨ cs.length ≤ p + i then cs[cs.length - 1 - p] else cs[p] := by
  simp only [rvL, List.getElem_map, List.getElem_range]
  split
  · exact getDC (by omega)
  · exact getDC hp
theorem rvL_step {cs : List Coach} {i j : Nat} (hij : i < j) (hj : i + j + 1 = cs.length) : ((rvL cs i).set i cs[j]).set j cs[i] = rvL cs (i + 1) := by
  apply List.ext_getElem
  · simp [rvL_length]
  · intro p h1 h2
    rw [rvL_length] at h2
    rw [List.getElem_set, List.getElem_set, rvL_get h2, rvL_get h2]
    by_cases hpj : j = p
    · subst hpj
      rw [if_pos rfl, if_pos (by omega)]
      congr 1; omega
    · rw [if_neg hpj]
      by_cases hpi : i = p
      · subst hpi
        rw [if_pos rfl, if_pos (by omega)]
        congr 1; omega
      · rw [if_neg hpi]
        by_cases h3 : p < i ∨ cs.length ≤ p + i
        · rw [if_pos h3, if_pos (by omega)]
        · rw [if_neg h3, if_neg (by omega)]
theorem rvL_end {cs : List Coach} {i : Nat} (hi : cs.length ≤ 2 * i + 1) : rvL cs i = cs.reverse := by
  apply List.ext_getElem
  · simp [rvL_length]
  · intro p h1 h2
    rw [rvL_length] at h1
    rw [rvL_get h1, List.getElem_reverse]
    by_cases h3 : p < i ∨ cs.length ≤ p + i
    · rw [if_pos h3]
    · rw [if_neg h3]
      congr 1; omega

set_option maxRecDepth 100000 in
theorem reverseC_nil (A : Option Addr) (c : Nat) (w : World) :
    Calls Try.prog 35 #[.slice A 0 c] w fun e w' => e = .returned (.tuple #[]) ∧ w = w' := by
  go_enter Try.func35, Try.ntmps35
  go_wp2
  go_rounds 1
  go_end0
  exact ⟨rfl, rfl⟩
def RevC (w : World) (base : Nat) (A : Option Addr) (b : Nat) (cs : List Coach) (e : Ending) (w' : World) : Prop :=
  e = .returned (.tuple #[]) ∧ Own w' (base + 1) w'.heap.size A (flatC cs.reverse) ∧ w.grownBy w' (some b)

set_option maxRecDepth 100000 in
set_option maxHeartbeats 8000000 in
theorem reverseC_some (b o c base n : Nat) (cs : List Coach) (w : World) (ho : Own w (base + 1) w.heap.size (some ⟨b, o, none⟩) (flatC cs)) (hn : cs.length = n) (h0 : 0 < n) (h10 : n ≤ 10) :
    Calls Try.prog 35 #[.slice (some ⟨b, o, none⟩) n c] w (RevC w base (some ⟨b, o, none⟩) b cs) := by
  have HN := Lib.hid hn
  have HST := Lib.hid (show Own w (base + 1) w.heap.size (some ⟨b, o, none⟩) (flatC (rvL cs 0)) by rw [rvL_zero]; exact ho)
  obtain ⟨m0, hm0⟩ : ∃ m0, n = m0 + 1 := ⟨n - 1, by omega⟩
  subst hm0
  clear hn ho h0
  go_enter Try.func35, Try.ntmps35
  go_wp2
  go_loopw [2, 3] (fun u v wr => ∃ i j : Nat, i + j = m0 ∧ u = .int .i64 i ∧ v = .int .i64 j ∧ i ≤ j + 1 ∧ Own wr (base + 1) w.heap.size (some ⟨b, o, none⟩) (flatC (rvL cs i)) ∧ w.grownBy wr (some b)) (fun u v _ => (intOf v + 1 - intOf u).toNat)
  case atStart => exact ⟨0, m0, by omega, rfl, by go_num, by omega, HST.out, World.grownBy.refl _ _⟩
  case round =>
    obtain ⟨i, j, hij, rfl, rfl, hij2, ho, hg⟩ := hrel
    clear HST
    have HIJ := Lib.hid hij
    have hm10 : m0 ≤ 9 := by omega
    have hi10 : i ≤ 9 := by omega
    have hj10 : j ≤ 9 := by omega
    have HO := Lib.hid ho
    have HG := Lib.hid hg
    by_cases hlt : i < j
    · obtain ⟨b', o', e, _, hbw, hcells, hfz⟩ := ho.open' (by omega) (by rw [flatC_length, rvL_length, HN.out]; omega)
      simp only [Option.some.injEq, Addr.mk.injEq, and_true] at e
      obtain ⟨rfl, rfl⟩ := e
      have hli : i < cs.length := by rw [HN.out]; omega
      have hlj : j < cs.length := by rw [HN.out]; omega
      obtain ⟨x0, x1, x2, x3⟩ := coach_at hcells (k := i) (by rw [rvL_length]; exact hli)
      obtain ⟨y0, y1, y2, y3⟩ := coach_at hcells (k := j) (by rw [rvL_length]; exact hlj)
      rw [rvL_get hli, if_neg (by rw [HN.out]; omega)] at x0 x1 x2 x3
      rw [rvL_get hlj, if_neg (by rw [HN.out]; omega)] at y0 y1 y2 y3
      have HSTEP := Lib.hid (rvL_step hlt (cs := cs) (by rw [HN.out]; omega))
      have HST1 := Lib.hid (fun (W : World) (h : Own W (base + 1) w.heap.size (some ⟨b, o, none⟩) (flatC (rvL cs i))) => own_setC (own_setC h i cs[j]) j cs[i])
      obtain ⟨p, hp⟩ : ∃ p, cs[i] = p := ⟨_, rfl⟩
      obtain ⟨q, hq⟩ : ∃ q, cs[j] = q := ⟨_, rfl⟩
      rw [hp] at x0 x1 x2 x3 HSTEP HST1
      rw [hq] at y0 y1 y2 y3 HSTEP HST1
      have f0 := hfz (o + i * 4)
      have f1 := hfz (o + i * 4 + 1)
      have f2 := hfz (o + i * 4 + 2)
      have f3 := hfz (o + i * 4 + 3)
      have g0 := hfz (o + j * 4)
      have g1 := hfz (o + j * 4 + 1)
      have g2 := hfz (o + j * 4 + 2)
      have g3 := hfz (o + j * 4 + 3)
      have hiI : (i : Int) < (m0 + 1 : Nat) := by omega
      have hjI : (j : Int) < (m0 + 1 : Nat) := by omega
      have hi0 : (0 : Int) ≤ i := by omega
      have hj0 : (0 : Int) ≤ j := by omega
      have hne : ¬ i = j := by omega
      clear hp hq hcells hfz ho hg
      go_wp2
      go_region
      have HW := Lib.hid (And.intro (own_drewT (HST1.out wr HO.out)) (g_drew (row := some b) (grown_set (grown_set (grown_set (grown_set (grown_set (grown_set (grown_set (grown_set HG.out (o + i * 4) (.int .i64 q.fr)) (o + i * 4 + 1) (.int .i64 q.lv)) (o + i * 4 + 2) (.int .i64 q.to)) (o + i * 4 + 3) (.int .i64 q.cm)) (o + j * 4) (.int .i64 p.fr)) (o + j * 4 + 1) (.int .i64 p.lv)) (o + j * 4 + 2) (.int .i64 p.to)) (o + j * 4 + 3) (.int .i64 p.cm))))
      clear x0 x1 x2 x3 y0 y1 y2 y3 f0 f1 f2 f3 g0 g1 g2 g3 HST1
      go_wp2
      go_roundw
      case rel => exact ⟨i + 1, j - 1, by have := HIJ.out; omega, by go_num, by go_num, by omega, by rw [← HSTEP.out]; exact HW.out.1, HW.out.2⟩
      case measure => simp [intOf]; omega
    · have hF : cs.length ≤ 2 * i + 1 := by rw [HN.out]; omega
      have HF := Lib.hid (show RevC w base (some ⟨b, o, none⟩) b cs (.returned (.tuple #[])) wr from ⟨rfl, by rw [rvL_end hF] at ho; exact ho.more hg.size, hg⟩)
      clear ho hg hF
      go_wp2
      go_end0
      exact HF.out
end Go.Proofs.Ytimbkclhkepgfaa
