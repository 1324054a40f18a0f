/- Answers: how deep they lie, both. No condition. -/
import Derived.Test.YtldbefmiabgkhabT2
import Derived.Test.YtldbefmiabgkhabN9i
import Derived.Test.YtldbefmiabgkhabEx
namespace Go.Proofs.Ytldbefmiabgkhab
open Go.RowKit

theorem getD_none {zs : List Int} {k : Nat} (h : ¬ k < zs.length) : zs.getD k 0 = 0 := by simp [List.getD, List.getElem?_eq_none (Nat.le_of_not_lt h)]
def depL (zs : List Int) : List Int := if ansB zs then tab zs.length (dv zs) else []
theorem depL_yes {zs : List Int} (h : ansB zs = true) : depL zs = tab zs.length (dv zs) := by rw [depL, if_pos h]
theorem depL_no {zs : List Int} (h : ansB zs = false) : depL zs = [] := by rw [depL, if_neg (by simp [h])]
theorem tab_succ (f : Nat → Int) (k : Nat) : tab (k + 1) f = tab k f ++ [f k] := by simp [tab, List.range_succ]
theorem Try.infoD : (Try.prog.info? 3).map (fun i => (i.zero, i.size, i.bytes)) = some (some (.int .i64 0), 1, 8) := by kernel_rfl
theorem first_litD (W : World) : (W.alloc (.cells #[] 3)).ownsRow W.heap.size 3 1 (.slice (some ⟨W.heap.size, 0, none⟩) 0 0) 0 [] := ⟨rfl, .inr ⟨W.heap.size, 0, #[], rfl, Nat.le_refl _, heap_alloc_new W _, Nat.le_refl _, by simp [maxLen], rfl, rfl⟩⟩
end Go.Proofs.Ytldbefmiabgkhab
