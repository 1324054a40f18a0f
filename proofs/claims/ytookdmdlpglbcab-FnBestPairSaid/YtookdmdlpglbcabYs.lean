/- What is not paid of two stamps, plain. No condition. -/
import Derived.Test.YtookdmdlpglbcabYm
namespace Go.Proofs.Ytookdmdlpglbcab
open Go.RowKit

/-- A rate is made of two stamps. -/
theorem fw_two {a b : Nat} (ha : 1 ≤ a) (hb : 1 ≤ b) : ∀ r : Nat, 0 ≤ fw [(a : Int), (b : Int)] r ↔ ∃ x y : Nat, x * a + y * b = r := by
  have hp : ∀ s ∈ [(a : Int), (b : Int)], 1 ≤ s := by intro s hs; simp at hs; omega
  intro r
  constructor
  · induction r using Nat.strongRecOn with
    | _ r ih =>
      intro h
      by_cases hr : r = 0
      · exact ⟨0, 0, by simp [hr]⟩
      · obtain ⟨s, hs, h1, h2, _⟩ := fw_from hp (by omega) h
        simp only [List.mem_cons, List.not_mem_nil, or_false] at hs
        rcases hs with rfl | rfl
        · obtain ⟨x, y, hxy⟩ := ih (r - (a : Int).toNat) (by omega) h2
          exact ⟨x + 1, y, by rw [Nat.add_mul]; omega⟩
        · obtain ⟨x, y, hxy⟩ := ih (r - (b : Int).toNat) (by omega) h2
          exact ⟨x, y + 1, by rw [Nat.add_mul]; omega⟩
  · rintro ⟨x, y, hxy⟩
    have h0 : 0 ≤ fw [(a : Int), (b : Int)] 0 := by rw [fw_zero]; omega
    have h1 := (fw_more hp (s := (a : Int)) (by simp) h0 x).1
    have h2 := (fw_more hp (s := (b : Int)) (by simp) h1 y).1
    have e : 0 + x * (a : Int).toNat + y * (b : Int).toNat = r := by rw [Int.toNat_natCast, Int.toNat_natCast]; omega
    rw [e] at h2; exact h2
def rep2 (a b r : Nat) : Bool := (List.range a).any (fun y => Nat.ble (y * b) r && Nat.beq ((r - y * b) % a) 0)
theorem rep2_iff {a b : Nat} (ha : 1 ≤ a) (hb : 1 ≤ b) (r : Nat) : rep2 a b r = true ↔ 0 ≤ fw [(a : Int), (b : Int)] r := by
  rw [fw_two ha hb, rep2, List.any_eq_true]
  constructor
  · rintro ⟨y, _, hy⟩
    rw [Bool.and_eq_true, Nat.ble_eq, Nat.beq_eq] at hy
    refine ⟨(r - y * b) / a, y, ?_⟩
    have := Nat.div_add_mod (r - y * b) a
    rw [hy.2, Nat.mul_comm] at this
    omega
  · rintro ⟨x, y, hxy⟩
    refine ⟨y % a, List.mem_range.2 (Nat.mod_lt _ (by omega)), ?_⟩
    have e1 : y * b = (y % a) * b + (y / a) * b * a := by
      have := Nat.div_add_mod y a
      calc y * b = (a * (y / a) + y % a) * b := by rw [this]
        _ = (y % a) * b + (y / a) * b * a := by rw [Nat.add_mul, Nat.mul_comm a, Nat.mul_assoc, Nat.mul_comm a b, ← Nat.mul_assoc, Nat.add_comm]
    rw [Bool.and_eq_true, Nat.ble_eq, Nat.beq_eq]
    have e2 : r - (y % a) * b = (x + (y / a) * b) * a := by rw [Nat.add_mul]; omega
    exact ⟨by omega, by rw [e2]; exact Nat.mul_mod_left _ _⟩

def np2 (a b : Nat) : List Nat := (List.range' 1 140).filter (fun r => !rep2 a b r)
def np2ok (a b : Nat) : Bool := Nat.beq (np2 a b).length ((a - 1) * (b - 1) / 2) && (Nat.beq (np2 a b).length 0 || Nat.beq ((np2 a b).getD ((np2 a b).length - 1) 0 + a + b) (a * b))
theorem np2_fin : ∀ a : Fin 13, ∀ b : Fin 13, (Nat.blt 0 a.1 && Nat.blt a.1 b.1 && Nat.beq (Nat.gcd a.1 b.1) 1) = true → np2ok a.1 b.1 = true := by decide +kernel
end Go.Proofs.Ytookdmdlpglbcab
