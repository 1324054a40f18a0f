/- How many letters are in the rows of a sort. No condition. -/
import Derived.Test.YtdgdlmpmoafkgaaSq
import Derived.Test.YtdgdlmpmoafkgaaG1
namespace Go.Proofs.Ytdgdlmpmoafkgaa
open Go.RowKit

theorem sortR_rows {zs : List Int} {k : Nat} (hk : 0 < k) (m : Nat) : ∀ r ∈ sortR zs k m, r.length = zs.length := by
  induction m with
  | zero => intro r hr; simp [sortR] at hr; rw [hr]
  | succ m ih =>
    intro r hr
    simp only [sortR, List.mem_append, List.mem_singleton] at hr
    rcases hr with h | rfl
    · exact ih r h
    · exact (nowP_perm hk (m + 1)).length_eq
theorem total_le {rs : List (List Int)} {n : Nat} (h : ∀ r ∈ rs, r.length ≤ n) : total rs ≤ rs.length * n := by
  induction rs with
  | nil => simp [total]
  | cons r rs ih =>
    have h1 := h r (by simp)
    have h2 := ih (fun x hx => h x (by simp [hx]))
    simp only [total, List.map_cons, List.sum_cons, List.length_cons] at h2 ⊢
    rw [Nat.add_mul]; omega
theorem sortV_bd (zs : List Int) (k : Int) : (sortV zs k).length ≤ 5 ∧ (∀ r ∈ sortV zs k, r.length ≤ 9) := by
  unfold sortV
  by_cases hc : (rowB 9 zs && inR k 2 4) = true
  · rw [if_pos hc]
    simp only [Bool.and_eq_true] at hc
    have h1 := rowB_len hc.1
    have h2 : 2 ≤ k ∧ k ≤ 4 := by simpa [inR] using hc.2
    refine ⟨by rw [sortR_len]; have := passN_le (runsNat zs) k.toNat; omega, fun r hr => ?_⟩
    rw [sortR_rows (by omega) _ r hr]; exact h1
  · rw [if_neg hc]; simp
end Go.Proofs.Ytdgdlmpmoafkgaa
