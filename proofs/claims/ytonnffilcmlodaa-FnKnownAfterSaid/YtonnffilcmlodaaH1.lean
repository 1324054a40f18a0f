/- Valid houses: contracts of spec. No condition. -/
import Derived.Test.YtonnffilcmlodaaG5
import Derived.Test.YtonnffilcmlodaaA1
import Derived.Test.YtonnffilcmlodaaS0
namespace Go.Proofs.Ytonnffilcmlodaa
open Go.RowKit

theorem all_take {α : Type} {zs : List α} {p : α → Bool} {k : Nat} (hk : k < zs.length) : (zs.take (k + 1)).all p = ((zs.take k).all p && p zs[k]) := by
  rw [List.take_succ_eq_append_getElem hk, List.all_append]; simp only [List.all_cons, List.all_nil, Bool.and_true]
theorem all_no {α : Type} {zs : List α} {p : α → Bool} {k : Nat} (hk : k < zs.length) (h : p zs[k] = false) : zs.all p = false := by
  rw [List.all_eq_false]; exact ⟨zs[k], List.getElem_mem hk, by simp [h]⟩
theorem two_of {r : List Int} (h : r.length = 2) : ∃ p s, r = [p, s] := by
  match r, h with
  | [p, s], _ => exact ⟨p, s, rfl⟩

/-- A row is a house. -/
def okH (r : List Int) : Bool := decide (r.length = 2) && (inR (r.getD 0 0) 0 20 && inR (r.getD 1 0) 0 1)
def housesB (rs : List (List Int)) : Bool := decide (rs.length ≤ 6) && rs.all okH
theorem okH_two (p s : Int) : okH [p, s] = (inR p 0 20 && inR s 0 1) := by simp [okH]
theorem okH_no {r : List Int} (h : ¬ r.length = 2) : okH r = false := by simp [okH, h]
theorem houses_no {rs : List (List Int)} {k : Nat} (hk : k < rs.length) (h : okH rs[k] = false) : housesB rs = false := by simp [housesB, all_no hk h]
theorem houses_all {rs : List (List Int)} (h : rs.all okH = true) : housesB rs = decide (rs.length ≤ 6) := by simp [housesB, h]
theorem inR_iff {n lo hi : Int} : inR n lo hi = true ↔ lo ≤ n ∧ n ≤ hi := by simp [inR]
end Go.Proofs.Ytonnffilcmlodaa
