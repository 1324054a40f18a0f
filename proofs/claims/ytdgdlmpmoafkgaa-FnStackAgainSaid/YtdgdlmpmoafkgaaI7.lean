/- spec.unloads, spec.CanUnload. No condition. -/
import Derived.Test.YtdgdlmpmoafkgaaI5
namespace Go.Proofs.Ytdgdlmpmoafkgaa
open Go.RowKit

theorem okU_no {zs : List Int} {st : Nat → Nat} {i k : Nat} (hk : k < i) (h1 : st k = st i) (h2 : zs.getD k 0 < zs.getD i 0) : okU zs st i = false := by
  have : okU zs st i ≠ true := fun e => okU_iff.1 e k hk h1 h2
  simpa using this
def okUto (zs : List Int) (st : Nat → Nat) (i m : Nat) : Prop := ∀ k, k < m → st k = st i → ¬ zs.getD k 0 < zs.getD i 0

theorem unlB_row {zs ss : List Int} (h : rowB 9 zs = false) : unlB zs ss = false := by simp [unlB, h]
theorem unlB_len {zs ss : List Int} (h : ¬ ss.length = zs.length) : unlB zs ss = false := by simp [unlB, h]
theorem unlB_in {zs ss : List Int} (h : ss.all (fun s => inR s 0 8) = false) : unlB zs ss = false := by simp [unlB, h]
theorem unlB_all {zs ss : List Int} (h1 : rowB 9 zs = true) (h2 : ss.length = zs.length) (h3 : ss.all (fun s => inR s 0 8) = true) : unlB zs ss = (List.range zs.length).all (okU zs (stN ss)) := by simp [unlB, h1, h2, h3]
theorem all_noI {zs : List Int} {p : Int → Bool} {k : Nat} (hk : k < zs.length) (h : p zs[k] = false) : zs.all p = false := by
  rw [List.all_eq_false]; exact ⟨zs[k], List.getElem_mem hk, by simp [h]⟩
end Go.Proofs.Ytdgdlmpmoafkgaa
