/- Odd corners: spec.odds, impl.oddsIn. No condition. -/
import Derived.Test.YtmffnokagbbmiaaN7
import Derived.Test.YtmffnokagbbmiaaG6
import Derived.Test.YtmffnokagbbmiaaEx
namespace Go.Proofs.Ytmffnokagbbmiaa
open Go.RowKit

def ends1 (i : Nat) (s : St) : Nat := (if s.1 = i then 1 else 0) + (if s.2.1 = i then 1 else 0)
def degT (ss : List St) (i : Nat) : Nat := (ss.map (ends1 i)).sum
def oddsTo (k : Nat) (ss : List St) : List Int := ((List.range k).filter fun i => degT ss i % 2 == 1).map Int.ofNat
theorem degT_take {ss : List St} {k : Nat} (hk : k < ss.length) (i : Nat) : degT (ss.take (k + 1)) i = degT (ss.take k) i + ends1 i ss[k] := by
  unfold degT; rw [List.take_succ_eq_append_getElem hk, List.map_append, List.sum_append]; simp
theorem ends1_le (i : Nat) (s : St) : ends1 i s ≤ 2 := by unfold ends1; split <;> split <;> omega
theorem degT_le (ss : List St) (i : Nat) : degT ss i ≤ 2 * ss.length := by
  unfold degT
  induction ss with
  | nil => simp
  | cons s ss ih => have := ends1_le i s; simp only [List.map_cons, List.sum_cons, List.length_cons]; omega
theorem degT_take_le (ss : List St) (k i : Nat) : degT (ss.take k) i ≤ 2 * k := by
  have := degT_le (ss.take k) i
  simp only [List.length_take] at this; omega
theorem oddsTo_yes {ss : List St} {k : Nat} (h : degT ss k % 2 = 1) : oddsTo (k + 1) ss = oddsTo k ss ++ [(k : Int)] := by
  unfold oddsTo; rw [List.range_succ, List.filter_append, List.map_append]; simp [h]
theorem oddsTo_no {ss : List St} {k : Nat} (h : ¬ degT ss k % 2 = 1) : oddsTo (k + 1) ss = oddsTo k ss := by
  unfold oddsTo; rw [List.range_succ, List.filter_append, List.map_append]; simp [h]
theorem oddsTo_len (ss : List St) (k : Nat) : (oddsTo k ss).length ≤ k := by
  unfold oddsTo; rw [List.length_map]; have := List.length_filter_le (fun i => degT ss i % 2 == 1) (List.range k); simpa using this

theorem Try.infoI : (Try.prog.info? 3).map (fun i => (i.zero, i.size, i.bytes)) = some (some (.int .i64 0), 1, 8) := by kernel_rfl
/-- What a call that answers a fresh row of numbers says. -/
theorem first_litN (W : World) : (W.alloc (.cells #[] 3)).ownsRow W.heap.size 3 1 (.slice (some ⟨W.heap.size, 0, none⟩) 0 0) 0 [] := ⟨rfl, .inr ⟨W.heap.size, 0, #[], rfl, Nat.le_refl _, heap_alloc_new W _, Nat.le_refl _, by simp [maxLen], rfl, rfl⟩⟩
def iRes (w : World) (V : List Int) (e : Ending) (w' : World) : Prop := ∃ A c, e = .returned (.slice A V.length c) ∧ V.length ≤ c ∧ OwnInts w' w.heap.size w'.heap.size A V ∧ Below w.heap.size w w'
theorem iRes_row {w w' : World} {A : Option Addr} {n c : Nat} {V : List Int} (h : w'.ownsRow w.heap.size 3 1 (.slice A n c) n (V.map (Value.int .i64))) (hn : n = V.length) (hb : Below w.heap.size w w') : iRes w V (.returned (.slice A n c)) w' := by
  subst hn
  exact ⟨A, c, rfl, own_cap h, own_row_cells h, hb⟩
end Go.Proofs.Ytmffnokagbbmiaa
