/- spec.oneStack, spec.OneStack. No condition. -/
import Derived.Test.YtaklhpjbgjccgaaI8
import Derived.Test.YtaklhpjbgjccgaaI2
import Derived.Test.YtaklhpjbgjccgaaI6
import Derived.Test.YtaklhpjbgjccgaaS9
import Derived.WalkSmall
import Derived.Deep.RegionHeld3
namespace Go.Proofs.Ytaklhpjbgjccgaa
open Go.RowKit

theorem ones_ints (S : List Int) : ∀ u ∈ S.map (Value.int .i64), u.oneCell' = true := fun u hu => by
  obtain ⟨z, _, rfl⟩ := List.mem_map.1 hu; rfl
theorem rev_snoc (S : List Int) (x : Int) : (S ++ [x]).reverse = x :: S.reverse := by simp
theorem top_reverse {S : List Int} {d : Nat} (h : S.length = d + 1) : S.reverse = S.getD d 0 :: (S.take d).reverse := by
  have h2 : S = S.take d ++ [S.getD d 0] := by
    rw [getD_get (by omega), ← List.take_succ_eq_append_getElem (by omega), List.take_of_length_le (by omega)]
  conv => lhs; rw [h2]
  exact rev_snoc _ _
theorem drop_get {zs : List Int} {i : Nat} (h : i < zs.length) : zs.drop i = zs.getD i 0 :: zs.drop (i + 1) := by
  rw [getD_get h]; exact (List.getElem_cons_drop h).symm

/-- The state of the stack and what came from it. -/
def OneSt (w0 W : World) (H : Option Addr) (m c1 : Nat) (S : List Int) (H2 : Option Addr) (p c2 : Nat) (X : List Int) : Prop :=
  S.length = m ∧ X.length = p ∧ W.ownsRow w0.heap.size 3 1 (.slice H m c1) m (S.map (Value.int .i64)) ∧ W.ownsRow w0.heap.size 3 1 (.slice H2 p c2) p (X.map (Value.int .i64)) ∧ H2.map (·.block) ≠ H.map (·.block) ∧ (H.map (·.block)).isSome = true ∧ (H2.map (·.block)).isSome = true ∧ Below w0.heap.size w0 W

theorem OneSt.drewN {w0 W : World} {H H2 : Option Addr} {m c1 p c2 : Nat} {S X : List Int} (h : OneSt w0 W H m c1 S H2 p c2 X) (q : Nat) : OneSt w0 (W.drewN q) H m c1 S H2 p c2 X :=
  ⟨h.1, h.2.1, h.2.2.1, h.2.2.2.1, h.2.2.2.2.1, h.2.2.2.2.2.1, h.2.2.2.2.2.2.1, below_drewN h.2.2.2.2.2.2.2 q⟩
/-- A letter from the top. -/
theorem OneSt.pop {w0 W W' : World} {H H2 H2' : Option Addr} {m d c1 p c2 c2' : Nat} {S X : List Int} {t : Int} (h : OneSt w0 W H m c1 S H2 p c2 X) (hd : m = d + 1)
    (ho : W'.ownsRow w0.heap.size 3 1 (.slice H2' (p + 1) c2') (p + 1) (X.map (Value.int .i64) ++ [.int .i64 t])) (hg : W.grownBy W' (Value.slice H2 p c2).ownBlock) (hat : H2'.map (·.block) = H2.map (·.block) ∨ H2'.map (·.block) = some (W.heap.size + 1)) :
    OneSt w0 W' H d c1 (S.take d) H2' (p + 1) c2' (X ++ [t]) := by
  obtain ⟨h1, h2, h3, h4, h5, h6, h7, h8⟩ := h
  subst hd
  obtain ⟨b, rfl, _, _⟩ := own_some h3 (by omega)
  have h3' := keep_other (H2 := H2) (m := p) (d := c2) h3 hg (fun e => h5 e.symm)
  refine ⟨by rw [List.length_take]; omega, by simp [h2], ?_, by rw [List.map_append]; exact ho, fun e => ne_new h3 (fun e => h5 e.symm) hat (by omega) e.symm, h6, some_new h7 hat, h8.grown hg h8.size (fun i hi => (h4.lt _ hi).1)⟩
  refine ownsRow_pop (last := [Value.int .i64 (S.getD d 0)]) (by simp; omega) ?_
  have e : S = S.take d ++ [S.getD d 0] := by
    rw [getD_get (by omega), ← List.take_succ_eq_append_getElem (by omega), List.take_of_length_le (by omega)]
  rw [e, List.map_append] at h3'
  exact h3'

/-- A letter put on: the stack is a new row. -/
theorem OneSt.push {w0 V W' : World} {H H2 A3 : Option Addr} {m c1 c3 p c2 : Nat} {S X : List Int} {x : Int} (h : OneSt w0 V H m c1 S H2 p c2 X)
    (ho : W'.ownsRow V.heap.size 3 1 (.slice A3 (m + 1) c3) (m + 1) (S.map (Value.int .i64) ++ [.int .i64 x])) (hg : V.grownBy W' none) : OneSt w0 W' A3 (m + 1) c3 (S ++ [x]) H2 p c2 X := by
  obtain ⟨h1, h2, h3, h4, h5, h6, h7, h8⟩ := h
  obtain ⟨b, rfl, hb1, hb2⟩ := own_some ho (by omega)
  refine ⟨by simp [h1], h2, by rw [List.map_append]; exact own_base ho h8.size, h4.kept hg (.inr (by rw [slice_block]; intro e; rw [e] at h7; simp at h7)), ?_, rfl, h7, h8.grown hg h8.size (fun i hi => by cases hi)⟩
  intro e
  have := (h4.lt b (by rw [slice_block]; exact e)).2
  omega
/-- A letter to what came. -/
theorem OneSt.add {w0 W W' : World} {H H2 H2' : Option Addr} {m c1 p c2 c2' : Nat} {S X : List Int} {t : Int} (h : OneSt w0 W H m c1 S H2 p c2 X)
    (ho : W'.ownsRow w0.heap.size 3 1 (.slice H2' (p + 1) c2') (p + 1) (X.map (Value.int .i64) ++ [.int .i64 t])) (hg : W.grownBy W' (Value.slice H2 p c2).ownBlock) (hat : H2'.map (·.block) = H2.map (·.block) ∨ H2'.map (·.block) = some (W.heap.size + 1)) :
    OneSt w0 W' H m c1 S H2' (p + 1) c2' (X ++ [t]) := by
  obtain ⟨h1, h2, h3, h4, h5, h6, h7, h8⟩ := h
  exact ⟨h1, by simp [h2], keep_other (H2 := H2) (m := p) (d := c2) h3 hg (fun e => h5 e.symm), by rw [List.map_append]; exact ho, fun e => ne_new h3 (fun e => h5 e.symm) hat (by omega) e.symm, h6, some_new h7 hat, h8.grown hg h8.size (fun i hi => (h4.lt _ hi).1)⟩

def oneV (zs : List Int) : List Int := if rowB 9 zs then osR zs else []
theorem oneV_yes {zs : List Int} (h : rowB 9 zs = true) : oneV zs = osR zs := by simp [oneV, h]
theorem oneV_no {zs : List Int} (h : rowB 9 zs = false) : oneV zs = [] := by simp [oneV, h]
theorem oneV_len (zs : List Int) : (oneV zs).length ≤ 9 := by
  unfold oneV
  by_cases h : rowB 9 zs = true
  · rw [if_pos h, osR_len]; exact rowB_len h
  · rw [if_neg h]; simp
end Go.Proofs.Ytaklhpjbgjccgaa
