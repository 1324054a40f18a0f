/- Rates read in memory; IsFair on both sides. No condition. -/
import Derived.Test.YtjklnknlifpidaaU1
import Derived.Test.YtjklnknlifpidaaN2
import Derived.Test.YtjklnknlifpidaaDr
import Derived.IntWalk
namespace Go.Proofs.Ytjklnknlifpidaa
open Go.RowKit

/-- A square of numbers that is read. -/
def Sq (w : World) (B b o n : Nat) (p q c : Nat → Nat) (D : Nat → Nat → Int) : Prop :=
  b < B ∧ ∀ i, i < n → w.cell? ⟨b, o + i, none⟩ = some (.slice (some ⟨p i, q i, none⟩) n (c i)) ∧ p i < B ∧ ∀ k, k < n → w.cell? ⟨p i, q i + k, none⟩ = some (.int .i64 (D i k))
section
variable {w w' : World} {B n : Nat} {D : Nat → Nat → Int}
theorem Sq.below {b o : Nat} {p q c : Nat → Nat} (h : Sq w B b o n p q c D) (hb : Below B w w') : Sq w' B b o n p q c D := by
  obtain ⟨h1, h2⟩ := h
  refine ⟨h1, fun i hi => ?_⟩
  obtain ⟨g1, g2, g3⟩ := h2 i hi
  exact ⟨cell_keep hb h1 g1, g2, fun k hk => cell_keep hb g2 (g3 k hk)⟩
theorem Sq.more {b o B' : Nat} {p q c : Nat → Nat} (h : Sq w B b o n p q c D) (hb : B ≤ B') : Sq w B' b o n p q c D := by
  obtain ⟨h1, h2⟩ := h
  refine ⟨by omega, fun i hi => ?_⟩
  obtain ⟨g1, g2, g3⟩ := h2 i hi
  exact ⟨g1, by omega, g3⟩
theorem Grid.sq {A : Option Addr} (h : Grid w 0 B A (mat n D)) (hn : 0 < n) : ∃ b o p q c, A = some ⟨b, o, none⟩ ∧ Sq w B b o n p q c D := by
  obtain ⟨hs, h1, h2⟩ := h
  obtain ⟨b, o, hA, hb, hc⟩ := h1.open (by rw [h2.1, mat_len]; exact hn)
  have hall : ∀ i : Nat, ∃ z : Nat × Nat × Nat, i < n → w.cell? ⟨b, o + i, none⟩ = some (.slice (some ⟨z.1, z.2.1, none⟩) n z.2.2) ∧ z.1 < B ∧ ∀ k, k < n → w.cell? ⟨z.1, z.2.1 + k, none⟩ = some (.int .i64 (D i k)) := fun i => by
    by_cases hi : i < n
    · obtain ⟨R, cR, k1, k2, k3⟩ := h2.2 i (by rw [mat_len]; exact hi)
      rw [mat_get hi] at k1 k2 k3
      rw [tab_length] at k1 k2
      obtain ⟨b', o', rfl, hb', hc'⟩ := k3.open (by simp [tab_length]; omega)
      exact ⟨(b', o', cR), fun _ => ⟨hc i _ k1, by omega, fun k hk => hc' k _ (tab_vals_get hk)⟩⟩
    · exact ⟨(0, 0, 0), fun h => absurd h hi⟩
  refine ⟨b, o, fun i => (Classical.choose (hall i)).1, fun i => (Classical.choose (hall i)).2.1, fun i => (Classical.choose (hall i)).2.2, hA, by omega, fun i hi => Classical.choose_spec (hall i) hi⟩
end

/-- What holds of all triples that come first. -/
def T3 (n : Nat) (P : Nat → Nat → Nat → Prop) (x y z : Nat) : Prop := ∀ x' y' z', x' < n → y' < n → z' < n → (x' < x ∨ (x' = x ∧ (y' < y ∨ (y' = y ∧ z' < z)))) → P x' y' z'
section
variable {n : Nat} {P : Nat → Nat → Nat → Prop} {x y z : Nat}
theorem T3.start : T3 n P 0 0 0 := fun _ _ _ _ _ _ h => by omega
theorem T3.next (h : T3 n P x y z) (hp : P x y z) : T3 n P x y (z + 1) := fun x' y' z' h1 h2 h3 h4 => by
  by_cases e : x' = x ∧ y' = y ∧ z' = z
  · obtain ⟨rfl, rfl, rfl⟩ := e; exact hp
  · exact h x' y' z' h1 h2 h3 (by omega)
theorem T3.row (h : T3 n P x y n) : T3 n P x (y + 1) 0 := fun x' y' z' h1 h2 h3 h4 => h x' y' z' h1 h2 h3 (by omega)
theorem T3.plane (h : T3 n P x n 0) : T3 n P (x + 1) 0 0 := fun x' y' z' h1 h2 h3 h4 => h x' y' z' h1 h2 h3 (by omega)
theorem T3.all (h : T3 n P n 0 0) (hx : x < n) (hy : y < n) (hz : z < n) : P x y z := h x y z hx hy hz (by omega)
end
/-- Over a third place, the third one last, or first. -/
def FairS (D : Nat → Nat → Int) (i k m : Nat) : Prop := D i k ≤ D i m + D m k
def FairI (D : Nat → Nat → Int) (m i k : Nat) : Prop := D i k ≤ D i m + D m k
theorem fairS_all {n : Nat} {D : Nat → Nat → Int} (h : T3 n (FairS D) n 0 0) : Fair n D := fun _ _ _ hi hj hk => h.all hi hk hj
theorem fairI_all {n : Nat} {D : Nat → Nat → Int} (h : T3 n (FairI D) n 0 0) : Fair n D := fun _ _ _ hi hj hk => h.all hj hi hk
theorem fair_not {n : Nat} {D : Nat → Nat → Int} {i m k : Nat} (hi : i < n) (hm : m < n) (hk : k < n) (h : ¬ D i k ≤ D i m + D m k) : decide (Fair n D) = false := decide_eq_false fun hf => h (hf i m k hi hm hk)
theorem fair_yes {n : Nat} {D : Nat → Nat → Int} (h : Fair n D) : decide (Fair n D) = true := decide_eq_true h

def fairV (rs : List (List Int)) : Bool := ratesB rs && decide (Fair rs.length (cellOf rs))
end Go.Proofs.Ytjklnknlifpidaa
