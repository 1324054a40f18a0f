/- The walk of the law FnSortPasses. No condition. -/
import Derived.Test.YtdgdlmpmoafkgaaSr
import Derived.Test.YtdgdlmpmoafkgaaSu
import Derived.Test.YtdgdlmpmoafkgaaS10
import Derived.Test.YtdgdlmpmoafkgaaEqR
import Derived.Test.YtdgdlmpmoafkgaaSt0
import Derived.Deep.RegionHeld3
namespace Go.Proofs.Ytdgdlmpmoafkgaa
open Go.RowKit

set_option maxRecDepth 100000 in
theorem drawSortPasses_any (A : Option Addr) (c : Nat) (zs : List Int) (w : World) (hr : Own w 0 w.heap.size A (zs.map (Value.int .u8))) (hx : zs.length ≤ c ∧ c ≤ maxLen ∧ ∀ z ∈ zs, (Lit.int .u8 z).wf = true) :
    Calls Try.prog 20 #[.slice A zs.length c] w fun e w' => ∃ (A : Option Addr) (c : Nat) (ds : List Int) (k : Int), e = .returned (.tuple #[.slice A ds.length c, .int .i64 k]) ∧ ds.length ≤ 10 ∧ ds.length ≤ c ∧ 1 ≤ k ∧ k ≤ 5 ∧ Own w' 0 w'.heap.size A (ds.map (Value.int .i64)) ∧ Below w.heap.size w w' := by
  have H := Lib.hid hx
  clear hx
  go_enter Try.func20, Try.ntmps20
  go_wp2_with fail
  refine (newReader_any _ _ _ _ hr H.out).mono ?_
  rintro e w1 ⟨rfl, hrd, hb1⟩
  go_wp2_with fail
  refine (someRow_any _ 0 _ hrd (by omega)).mono ?_
  rintro e w2 ⟨A2, c2, ds, rfl, h10, hc2, ho2, ⟨q2, hq2, hrd2⟩, hg2⟩
  have hgl := hrd.lt
  go_wp2_with fail
  refine (one_lit _ q2 w2 hrd2 (by omega) [2, 3, 4, 2, 1, 5] (by decide) (by decide) 6 rfl _ rfl).mono ?_
  rintro e w3 ⟨k, rfl, hk, hrd3, hg3⟩
  have hz2 := hg2.size
  have hz3 := hg3.size
  have ho3 : Own w3 0 w2.heap.size A2 (ds.map (Value.int .i64)) := (ho2.apart (Nat.le_refl _) hg3 (fun i hi => by injection hi with hi; omega)).row
  have hk' : 1 ≤ k ∧ k ≤ 5 := by simp at hk; omega
  clear hk
  go_wp2_with fail
  go_ret2
  exact ⟨A2, c2, ds, k, rfl, h10, hc2, hk'.1, hk'.2, ho3.more hz3, hb1.grown (grown_trans hg2 hg3) hb1.size (fun k hk => by injection hk with hk; omega)⟩

theorem sortV_some {zs : List Int} {k : Int} (h : sortV zs k ≠ []) : rowB 9 zs = true ∧ (2 ≤ k ∧ k ≤ 4) ∧ sortV zs k = sortR zs k.toNat (passN (runsNat zs) k.toNat) ∧ fewN zs k = (passN (runsNat zs) k.toNat : Int) := by
  unfold sortV at h ⊢
  by_cases hc : (rowB 9 zs && inR k 2 4) = true
  · rw [if_pos hc]
    simp only [Bool.and_eq_true] at hc
    exact ⟨hc.1, by simpa [inR] using hc.2, rfl, by simp [fewN, hc.1, hc.2]⟩
  · rw [if_neg hc] at h; exact absurd rfl h
theorem sortR_first (zs : List Int) (k m : Nat) : (sortR zs k m)[0]'(by rw [sortR_len]; omega) = zs := by
  induction m with
  | zero => rfl
  | succ m ih => simp only [sortR]; rw [List.getElem_append_left (by rw [sortR_len]; omega)]; exact ih
theorem sortR_last (zs : List Int) (k m : Nat) : (sortR zs k m)[m]'(by rw [sortR_len]; omega) = nowP zs k m := by
  cases m with
  | zero => rfl
  | succ m => simp only [sortR]; rw [List.getElem_append_right (by rw [sortR_len]; omega)]; simp [sortR_len]

theorem cell_keep {w w' : World} (q : Below w.heap.size w w') {b off : Nat} {v : Value} (hb : b < w.heap.size) (h : w.cell? ⟨b, off, none⟩ = some v) : w'.cell? ⟨b, off, none⟩ = some v := by
  rw [q.cell (p := ⟨b, off, none⟩) hb]; exact h
theorem HEm {n : Nat} (R A : Option Addr) (cR cA : Nat) (w : World) (h1 : Ints w w.heap.size R (tab n fun j => (j : Int))) (h2 : Ints w w.heap.size A (tab n fun j => (j : Int))) (hn : n ≤ 1000) :
    Calls Try.prog 17 #[.slice R n cR, .slice A n cA] w fun e w' => e = .returned (.bool true) ∧ ∃ k, w' = w.drewN k := by
  have h := equalInts_any R A cR cA (tab n fun j => (j : Int)) (tab n fun j => (j : Int)) w h1 h2 (by rw [tab_length]; omega)
  rw [tab_length, eqI_refl'] at h
  exact h
end Go.Proofs.Ytdgdlmpmoafkgaa
