/- spec.stacksBy, spec.StacksOf. No condition. -/
import Derived.Test.YtdgdlmpmoafkgaaI5
import Derived.Test.YtdgdlmpmoafkgaaG3
namespace Go.Proofs.Ytdgdlmpmoafkgaa
open Go.RowKit

theorem lisTo_new {zs : List Int} {i : Nat} (h : stk zs i = lisTo zs i) : lisTo zs (i + 1) = lisTo zs i + 1 := by
  have := up_pos zs i
  simp only [lisTo]; unfold stk at h; omega
theorem lisTo_old {zs : List Int} {i : Nat} (h : stk zs i < lisTo zs i) : lisTo zs (i + 1) = lisTo zs i := by
  have := up_pos zs i
  simp only [lisTo]; unfold stk at h; omega
theorem tab_snoc (n : Nat) (f : Nat → Int) : tab (n + 1) f = tab n f ++ [f n] := by
  unfold tab; rw [List.range_succ, List.map_append]; rfl
/-- Where the search of a stack stands. -/
def selS (u k : Nat) : Int := if k ≤ u then -1 else (u : Int)
theorem selS_lo {u k : Nat} (h : k ≤ u) : selS u k = -1 := by simp [selS, h]
theorem selS_hi {u k : Nat} (h : u < k) : selS u k = (u : Int) := by simp [selS]; omega

theorem at_form {A A' : Option Addr} {k : Nat} (h : A'.map (·.block) = A.map (·.block) ∨ ∃ a, A' = some a ∧ a.block = k) : A'.map (·.block) = A.map (·.block) ∨ A'.map (·.block) = some k := by
  rcases h with h | ⟨a, h1, h2⟩
  · exact .inl h
  · right; rw [h1]; simp [h2]
theorem keep_other {w w' : World} {base : Nat} {e : TypeId} {size n c m d : Nat} {H H2 : Option Addr} {xs : List Value} (h : w.ownsRow base e size (.slice H n c) n xs) (hg : w.grownBy w' (Value.slice H2 m d).ownBlock) (hne : H.map (·.block) ≠ H2.map (·.block)) : w'.ownsRow base e size (.slice H n c) n xs :=
  h.kept hg (.inr (by rw [slice_block, slice_block]; exact hne))
theorem ne_new {w : World} {base : Nat} {e : TypeId} {size n c k : Nat} {H H2 H2' : Option Addr} {xs : List Value} (h : w.ownsRow base e size (.slice H n c) n xs) (hne : H.map (·.block) ≠ H2.map (·.block)) (hat : H2'.map (·.block) = H2.map (·.block) ∨ H2'.map (·.block) = some k) (hk : w.heap.size ≤ k) : H.map (·.block) ≠ H2'.map (·.block) := by
  rcases hat with e | e
  · rw [e]; exact hne
  · rw [e]
    intro e2
    have := (h.lt k (by rw [slice_block]; exact e2)).2
    omega
theorem some_new {H H' : Option Addr} {k : Nat} (hs : (H.map (·.block)).isSome = true) (hat : H'.map (·.block) = H.map (·.block) ∨ H'.map (·.block) = some k) : (H'.map (·.block)).isSome = true := by
  rcases hat with e | e
  · rw [e]; exact hs
  · rw [e]; rfl

theorem stacksL_len (zs : List Int) : (stacksL zs).length = zs.length := by simp [stacksL, tab_length]
def stkV (zs : List Int) : List Int := if rowB 9 zs then stacksL zs else []
theorem stkV_yes {zs : List Int} (h : rowB 9 zs = true) : stkV zs = stacksL zs := by simp [stkV, h]
theorem stkV_no {zs : List Int} (h : rowB 9 zs = false) : stkV zs = [] := by simp [stkV, h]
theorem stkV_len (zs : List Int) : (stkV zs).length ≤ 9 := by
  unfold stkV
  by_cases h : rowB 9 zs = true
  · rw [if_pos h, stacksL_len]; exact rowB_len h
  · rw [if_neg h]; simp
end Go.Proofs.Ytdgdlmpmoafkgaa
