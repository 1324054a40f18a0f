/- BestWalk, spec: the least so far, plain. No condition. -/
import Derived.Test.YtlgeoilnjgojnaaBm
namespace Go.Proofs.Ytlgeoilnjgojnaa
open Go.RowKit

/-- The least over the bits below k, -1 where there is none; for the empty set the way from the start. -/
def MinAt (x : Int) (L : List (Int × Int)) (T : Nat → Int) (s : Nat) (t : Int × Int) (k : Nat) (y : Int) : Prop :=
  -1 ≤ y ∧ y ≤ 5000 ∧ (y = -1 → s ≠ 0 ∧ ∀ j, j < k → s.testBit j = false) ∧
  (0 ≤ y → (s = 0 → y = btw (0, 0) t x) ∧ (s ≠ 0 → (∃ j, s.testBit j = true ∧ y = T j + btw (L.getD j (0, 0)) t x) ∧ ∀ j, j < k → s.testBit j = true → y ≤ T j + btw (L.getD j (0, 0)) t x))
section
variable {x : Int} {L : List (Int × Int)} {T : Nat → Int} {s : Nat} {t : Int × Int} {k : Nat} {y : Int}
theorem minAt_zero (hs : s = 0) (h0 : 0 ≤ btw (0, 0) t x) (h1 : btw (0, 0) t x ≤ 40) : MinAt x L T s t 0 (btw (0, 0) t x) :=
  ⟨by omega, by omega, fun h => by omega, fun _ => ⟨fun _ => rfl, fun h => absurd hs h⟩⟩
theorem minAt_none (hs : s ≠ 0) : MinAt x L T s t 0 (-1) :=
  ⟨by omega, by omega, fun _ => ⟨hs, fun j hj => by omega⟩, fun h => by omega⟩
theorem MinAt.skip (h : MinAt x L T s t k y) (hb : s.testBit k = false) : MinAt x L T s t (k + 1) y := by
  obtain ⟨h1, h2, h3, h4⟩ := h
  refine ⟨h1, h2, fun e => ⟨(h3 e).1, fun j hj => ?_⟩, fun e => ⟨(h4 e).1, fun hs => ⟨((h4 e).2 hs).1, fun j hj hb2 => ?_⟩⟩⟩
  · by_cases e2 : j = k
    · rw [e2]; exact hb
    · exact (h3 e).2 j (by omega)
  · by_cases e2 : j = k
    · rw [e2, hb] at hb2; cases hb2
    · exact ((h4 e).2 hs).2 j (by omega) hb2
theorem MinAt.take {v : Int} (h : MinAt x L T s t k y) (hb : s.testBit k = true) (hv : v = T k + btw (L.getD k (0, 0)) t x) (hv0 : 0 ≤ v) (hv1 : v ≤ 5000) (hlt : y < 0 ∨ v < y) : MinAt x L T s t (k + 1) v := by
  obtain ⟨h1, h2, h3, h4⟩ := h
  refine ⟨by omega, hv1, fun e => by omega, fun _ => ⟨fun e => by rw [e] at hb; simp at hb, fun hs => ⟨⟨k, hb, hv⟩, fun j hj hb2 => ?_⟩⟩⟩
  by_cases e2 : j = k
  · rw [e2]; exact Int.le_of_eq hv
  · by_cases hy : y < 0
    · rw [(h3 (by omega)).2 j (by omega)] at hb2; cases hb2
    · have := ((h4 (by omega)).2 hs).2 j (by omega) hb2
      omega
theorem MinAt.stay {v : Int} (h : MinAt x L T s t k y) (hv : v = T k + btw (L.getD k (0, 0)) t x) (hy : ¬ y < 0) (hlt : ¬ v < y) : MinAt x L T s t (k + 1) y := by
  obtain ⟨h1, h2, h3, h4⟩ := h
  refine ⟨h1, h2, fun e => by omega, fun e => ⟨(h4 e).1, fun hs => ⟨((h4 e).2 hs).1, fun j hj hb2 => ?_⟩⟩⟩
  by_cases e2 : j = k
  · rw [e2, ← hv]; omega
  · exact ((h4 e).2 hs).2 j (by omega) hb2
theorem MinAt.done (h : MinAt x L T s t L.length y) (hs : s < 2 ^ L.length) : LvPost x L s T t y := by
  obtain ⟨h1, h2, h3, h4⟩ := h
  have hy : 0 ≤ y := by
    by_cases e : y = -1
    · obtain ⟨hs0, h5⟩ := h3 e
      obtain ⟨j, hj⟩ := Nat.exists_testBit_of_ne_zero hs0
      rw [h5 j (bit_lt hs hj)] at hj; cases hj
    · omega
  exact ⟨fun e => (h4 hy).1 e, fun e => ⟨((h4 hy).2 e).1, fun j hj => ((h4 hy).2 e).2 j (bit_lt hs hj) hj⟩⟩
end
/-- What the code reckons of a bit. -/
theorem bitQ (s k : Nat) : (((s / 2 ^ k % 2 : Nat) : Int) == 1) = s.testBit k := by
  have h := bit_iff s k
  cases hb : s.testBit k with
  | true => rw [(h.1 hb)]; rfl
  | false =>
    have h2 : ¬ s / 2 ^ k % 2 = 1 := fun e => by rw [h.2 e] at hb; cases hb
    have h3 : s / 2 ^ k % 2 = 0 := by omega
    rw [h3]; rfl
/-- A row that is put behind keeps the earlier ones. -/
theorem goodRow_push {x : Int} {L : List (Int × Int)} {rs : List (List Int)} {r : List Int} {s m : Nat} (h : goodRow x L rs s m) (hs : s < rs.length) : goodRow x L (rs ++ [r]) s m := by
  unfold goodRow cellT at *
  have e : (rs ++ [r]).getD s [] = rs.getD s [] := by simp [List.getD, List.getElem?_append_left hs]
  rw [e]; exact h
theorem goodRow_new {x : Int} {L : List (Int × Int)} {rs : List (List Int)} {r : List Int} {m : Nat} (hl : r.length = L.length) (h : ∀ j, j < m → rs.length.testBit j = true → LeastTo (fun a b => btw a b x) (0, 0) (hL L) (rs.length - 2 ^ j) (hL L j) (r.getD j 0) ∧ r.getD j 0 ≤ 40 * ((rs.length : Int) + 1)) : goodRow x L (rs ++ [r]) rs.length m := by
  unfold goodRow cellT
  have e : (rs ++ [r]).getD rs.length [] = r := by simp [List.getD]
  rw [e]; exact ⟨hl, h⟩
end Go.Proofs.Ytlgeoilnjgojnaa
