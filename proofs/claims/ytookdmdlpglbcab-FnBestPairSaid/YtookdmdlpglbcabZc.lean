/- The best pair, plain. No condition. -/
import Derived.Test.YtookdmdlpglbcabYm
namespace Go.Proofs.Ytookdmdlpglbcab
open Go.RowKit

def rP (most : Nat) (x : Nat × Nat) : Nat := reachV [(x.1 : Int), (x.2 : Int)] most
def bStep (most : Nat) (p x : Nat × Nat) : Nat × Nat := if rP most p < rP most x then x else p
def bIn (most b : Nat) : Nat → Nat × Nat → Nat × Nat
  | 0, p => p
  | a + 1, p => bStep most (bIn most b a p) (a + 1, b)
def bOut (most : Nat) : Nat → Nat × Nat
  | 0 => (1, 2)
  | n + 1 => bIn most (n + 3) (n + 2) (bOut most n)
def okP (p : Nat × Nat) : Prop := 1 ≤ p.1 ∧ p.1 < p.2 ∧ p.2 ≤ 12
theorem bIn_ok {most b : Nat} {p : Nat × Nat} (hp : okP p) (hb : b ≤ 12) : ∀ a, a < b → okP (bIn most b a p)
  | 0, _ => hp
  | a + 1, h => by
    rw [bIn, bStep]
    split
    · exact ⟨by simp, by simpa using h, hb⟩
    · exact bIn_ok hp hb a (by omega)
theorem bOut_ok {most : Nat} : ∀ n, n ≤ 10 → okP (bOut most n)
  | 0, _ => ⟨by simp [bOut], by simp [bOut], by simp [bOut]⟩
  | n + 1, h => bIn_ok (bOut_ok n (by omega)) (by omega) _ (by omega)
/-- With nothing to begin with. -/
def iStep (most : Nat) (p : Option (Nat × Nat)) (x : Nat × Nat) : Option (Nat × Nat) := match p with | none => some x | some p => some (bStep most p x)
def iIn (most b : Nat) : Nat → Option (Nat × Nat) → Option (Nat × Nat)
  | 0, p => p
  | a + 1, p => iStep most (iIn most b a p) (a + 1, b)
def iOut (most : Nat) : Nat → Option (Nat × Nat)
  | 0 => none
  | n + 1 => iIn most (n + 2) (n + 1) (iOut most n)
theorem iIn_some {most b : Nat} {p : Nat × Nat} : ∀ a, iIn most b a (some p) = some (bIn most b a p)
  | 0 => rfl
  | a + 1 => by rw [iIn, iIn_some a]; rfl
theorem iOut_some {most : Nat} : ∀ n, iOut most (n + 1) = some (bOut most n)
  | 0 => rfl
  | n + 1 => by rw [iOut, iOut_some n, iIn_some]; rfl
def iR (most : Nat) : Option (Nat × Nat) → Int
  | none => -1
  | some p => (rP most p : Int)
def bestP (most : Nat) : Nat × Nat := bOut most 10
/-- What the pair of a stamp 1 and another one reaches. -/
def bestQ (most : Nat) : Nat := rP most (bestP most)
theorem bestQ_fin : ∀ m : Fin 7, 1 ≤ m.1 → bestQ m.1 = (m.1 * m.1 + 6 * m.1 + 1) / 4 := by decide +kernel
end Go.Proofs.Ytookdmdlpglbcab
