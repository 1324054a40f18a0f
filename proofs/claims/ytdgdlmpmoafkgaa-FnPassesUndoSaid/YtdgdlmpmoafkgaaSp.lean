/- SortPasses: plain, and the boxes of spec. No condition. -/
import Derived.Test.YtdgdlmpmoafkgaaG3
import Derived.Test.YtdgdlmpmoafkgaaP3
import Derived.Test.YtdgdlmpmoafkgaaPo
import Derived.Test.YtdgdlmpmoafkgaaS8
import Derived.Deep.RegionHeld3
namespace Go.Proofs.Ytdgdlmpmoafkgaa
open Go.RowKit

/-- The box of a letter in pass p. -/
def digN (zs : List Int) (k p x : Nat) : Nat := runNo zs x / k ^ p % k
def boxesP (zs : List Int) (k p : Nat) (now : List Int) : List Int := now.map fun x => (digN zs k p x.toNat : Int)
def nowP (zs : List Int) (k : Nat) : Nat → List Int
  | 0 => zs
  | p + 1 => passL (nowP zs k p) (boxesP zs k p (nowP zs k p)) k
def sortR (zs : List Int) (k : Nat) : Nat → List (List Int)
  | 0 => [zs]
  | p + 1 => sortR zs k p ++ [nowP zs k (p + 1)]
def sortV (zs : List Int) (k : Int) : List (List Int) := if rowB 9 zs && inR k 2 4 then sortR zs k.toNat (passN (runsNat zs) k.toNat) else []

theorem boxesP_len (zs : List Int) (k p : Nat) (now : List Int) : (boxesP zs k p now).length = now.length := by simp [boxesP]
theorem boxesP_range {zs : List Int} {k p : Nat} {now : List Int} (hk : 0 < k) (i : Nat) (hi : i < (boxesP zs k p now).length) : 0 ≤ (boxesP zs k p now)[i] ∧ (boxesP zs k p now)[i] < (k : Int) := by
  simp only [boxesP, List.getElem_map, digN]
  have := Nat.mod_lt (runNo zs (now[i]'(by rw [boxesP_len] at hi; exact hi)).toNat / k ^ p) hk
  omega
theorem nowP_perm {zs : List Int} {k : Nat} (hk : 0 < k) (p : Nat) : (nowP zs k p).Perm zs := by
  induction p with
  | zero => exact List.Perm.refl _
  | succ p ih => exact (pass_perm (boxesP_len zs k p _) (boxesP_range hk)).trans ih
theorem sortR_len (zs : List Int) (k m : Nat) : (sortR zs k m).length = m + 1 := by
  induction m with
  | zero => rfl
  | succ m ih => simp [sortR, ih]

theorem far_cell {W w2 : World} {ob : Obj} {row : Option Nat} {S b o : Nat} {v : Value} (hg : (W.drew.alloc ob).grownBy w2 row) (hr : ∀ i, row = some i → S ≤ i) (hS : S ≤ W.heap.size) (hb : b < S) (hc : W.cell? ⟨b, o, none⟩ = some v) : w2.cell? ⟨b, o, none⟩ = some v := by
  have h1 := hg.block b (by simp; omega) (fun e => by have := hr b e.symm; omega)
  rw [World.cell?_of_block (a := ⟨b, o, none⟩) h1, World.cell?_of_block (w := W) (a := ⟨b, o, none⟩) (by rw [Below.heap_alloc _ _ _ (by simp; omega)]; rfl)]
  exact hc

set_option maxRecDepth 100000 in
set_option maxHeartbeats 2000000 in
theorem boxesAt_any (A R : Option Addr) (c d : Nat) (now zs : List Int) (k p : Nat) (w : World) (hr : Ints w w.heap.size A now) (hs : Ints w w.heap.size R (runsL zs)) (hn : rowB 9 now = true) (hz : rowB 9 zs = true) (hl : now.length = zs.length) (hk : 2 ≤ k) (hk4 : k ≤ 4) (hp : p ≤ 4) :
    Calls Try.prog 50 #[.slice A now.length c, .slice R zs.length d, .int .i64 k, .int .i64 p] w fun e w' => ∃ A' c', e = .returned (.slice A' now.length c') ∧ OwnInts w' w.heap.size w'.heap.size A' (boxesP zs k p now) ∧ Below w.heap.size w w' := by
  obtain ⟨i0, hi0, hz0, hz1, hz2⟩ := info_parts Try.info3
  have HN := Lib.hid hn
  have HZ := Lib.hid hz
  have hn9 := rowB_len hn
  have hle : now.length ≤ zs.length := by omega
  have hz9 := rowB_len hz
  have HL := Lib.hid hl
  clear hn hz hl
  have hstart : (w.alloc (.cells #[] 3)).ownsRow w.heap.size 3 1 (.slice (some ⟨w.heap.size, 0, none⟩) 0 0) 0 [] := World.ownsRow_lit w #[] 0 (Nat.le_refl _) (by simp [maxLen]) rfl
  have hb0 : Below w.heap.size w (w.alloc (.cells #[] 3)) := (Below.refl _ _).alloc (Nat.le_refl _) _
  have hpw := fun W => power_any k p W (by omega) (by have := pow_le (k := k) (j := p) hk4 (by omega); omega) (by omega)
  have hP1 : 1 ≤ k ^ p := Nat.pow_pos (by omega)
  have hP2 := pow_le (k := k) (j := p) hk4 (by omega)
  obtain ⟨P, hP⟩ : ∃ P, k ^ p = P := ⟨_, rfl⟩
  rw [hP] at hpw hP1 hP2
  have HPW := Lib.hid hpw
  have HP := Lib.hid hP
  clear hpw hP
  go_enter Try.func50, Try.ntmps50
  go_wp2
  go_loopw [9, 10] (fun v i wr => ∃ (n : Nat) (B : Option Addr) (c : Nat), n ≤ now.length ∧ i = .int .i64 n ∧ v = .slice B n c ∧ wr.ownsRow w.heap.size 3 1 (.slice B n c) n (((boxesP zs k p now).take n).map (Value.int .i64)) ∧ Below w.heap.size w wr) (fun _ i _ => now.length - (intOf i).toNat)
  case atStart => exact ⟨0, _, _, by omega, rfl, rfl, hstart, hb0⟩
  case round =>
    obtain ⟨n, B, c1, hn, rfl, rfl, hown, hbr⟩ := hrel
    clear hstart hb0
    by_cases hlt : n < now.length
    · obtain ⟨W, hW⟩ : ∃ W : World, W = wr := ⟨_, rfl⟩
      subst hW
      obtain ⟨ba, oa, rfl, hba, hca⟩ := (hr.below hbr).open (by simp; omega)
      have hcell := ints_at hca hlt
      have hin := (rowB_at HN.out hlt).1
      obtain ⟨y, hy⟩ : ∃ y : Nat, now[n] = (y : Int) := ⟨now[n].toNat, by omega⟩
      rw [hy] at hcell hin
      have hyl : y < zs.length := by have := HL.out; omega
      obtain ⟨bb, ob, rfl, hbb, hcb⟩ := (hs.below hbr).open (by simp [runsL_length]; omega)
      have hcellb := ints_at hcb (show y < (runsL zs).length by rw [runsL_length]; exact hyl)
      rw [runsL_get zs hyl] at hcellb
      have hrl := runNo_le zs y
      have hdig : (boxesP zs k p now)[n]'(by rw [boxesP_len]; exact hlt) = ((runNo zs y / P % k : Nat) : Int) := by
        simp only [boxesP, List.getElem_map, hy, Int.toNat_natCast, digN, HP.out]
      have htk : (boxesP zs k p now).take (n + 1) = (boxesP zs k p now).take n ++ [((runNo zs y / P % k : Nat) : Int)] := by
        rw [List.take_succ_eq_append_getElem (by rw [boxesP_len]; exact hlt), hdig]
      obtain ⟨r, hre⟩ : ∃ r, runNo zs y = r := ⟨_, rfl⟩
      rw [hre] at hcellb hrl htk
      have HTK := Lib.hid htk
      have hq : (r : Int).tdiv (P : Int) = ((r / P : Nat) : Int) := rfl
      obtain ⟨q, hqe⟩ : ∃ q, r / P = q := ⟨_, rfl⟩
      rw [hqe] at hq
      have hm : (q : Int).tmod (k : Int) = ((q % k : Nat) : Int) := rfl
      obtain ⟨g, hge⟩ : ∃ g, q % k = g := ⟨_, rfl⟩
      rw [hge] at hm
      have HQG := Lib.hid (show r / P % k = g by rw [hqe, hge])
      have hq9 : q ≤ 9 := by rw [← hqe]; exact Nat.le_trans (Nat.div_le_self _ _) (by omega)
      have hg9 : g ≤ 9 := by rw [← hge]; exact Nat.le_trans (Nat.mod_le _ _) hq9
      have hPne : ¬ P = 0 := by omega
      have hkne : ¬ k = 0 := by omega
      have hp0 : ((P : Int) == 0) = false := beq_eq_false_iff_ne.2 (by omega)
      have hk0 : ((k : Int) == 0) = false := beq_eq_false_iff_ne.2 (by omega)
      have hyb1 : (0 : Int) ≤ (y : Int) := by omega
      have hyb2 : (y : Int) < (zs.length : Int) := by omega
      have hnb1 : (0 : Int) ≤ (n : Int) := by omega
      have hnb2 : (n : Int) < (now.length : Int) := by omega
      have HO := Lib.hid hown
      have HB := Lib.hid hbr
      have hbs := hbr.size
      have hown' := hown
      have hbs1 : w.heap.size ≤ (W.drew.alloc (.cells #[.int .i64 (g : Int)] 3)).heap.size := by simp; omega
      clear hca hcb hy hin hdig htk hre hqe hge hown hbr hr hs
      go_wp2
      have e1 : IntKind.i64.wrap (q : Int) = q := IntWalk.i64_in _ (by omega)
      have e2 : IntKind.i64.wrap (g : Int) = g := IntWalk.i64_in _ (by omega)
      have HRW := Lib.hid (fun i hi => (hown'.lt i hi).1)
      have HC1 := Lib.hid hcell
      have HC2 := Lib.hid hcellb
      go_region_held3 (fun w' => w'.cell? ⟨ba, oa + n, none⟩ = some (.int .i64 (y : Int)) ∧ w'.cell? ⟨bb, ob + y, none⟩ = some (.int .i64 (r : Int)))
        (first | go_keep | exact ⟨far_cell hg2 HRW.out hbs hba HC1.out, far_cell hg2 HRW.out hbs hbb HC2.out⟩)
        ((first
          | (go_at_call 60; refine (HPW.out _).mono ?_; rintro e w' ⟨rfl, rfl⟩)
          | (refine step_extend (w := W.drew.alloc (.cells #[.int .i64 (g : Int)] 3)) (by rfl) (.tmp 18) (.tmp 32) 22 (by rfl) i0 (.int .i64 0) 8 Try.underlying22 hi0 hz0 hz1 hz2 rfl (by decide) _ _ (by rfl) ((show W.drew.ownsRow w.heap.size 3 1 _ _ _ from HO.out).alloc _) _ _ _ _ [.int .i64 (g : Int)] (by rfl) (by simp) (own_new W.drew #[.int .i64 (g : Int)] 3) (by simp [Value.oneCell']) (by omega) (by omega) hbs1 ?_; intro A' c' w2 hown2 hg2)))
      clear e1 e2 hq hm hp0 hk0 hPne hkne
      have hbelow : Below w.heap.size w w2 := (show Below w.heap.size w W.drew from ⟨HB.out.os, HB.out.tape, HB.out.output, HB.out.size, HB.out.block⟩).alloc hbs (.cells #[.int .i64 (g : Int)] 3) |>.grown hg2 hbs1 HRW.out
      have HW2 := Lib.hid (And.intro hown2 hbelow)
      clear hown2 hbelow hg2 hown' hbs1
      go_simp
      go_wp2
      go_roundw
      case rel =>
        refine ⟨n + 1, A', c', by omega, by go_num, rfl, ?_, HW2.out.2⟩
        rw [HTK.out, HQG.out]
        simpa using HW2.out.1
      case measure => simp [intOf]; omega
    · have hn' : n = now.length := by omega
      subst hn'
      rw [List.take_of_length_le (by rw [boxesP_len]; exact Nat.le_refl _)] at hown
      go_wp2
      go_ret
      obtain ⟨A', c', hv, _, ho⟩ := own_of_row hown
      simp only [Value.slice.injEq] at hv
      obtain ⟨rfl, _, rfl⟩ := hv
      exact ⟨_, _, rfl, ho, hbr⟩
end Go.Proofs.Ytdgdlmpmoafkgaa
