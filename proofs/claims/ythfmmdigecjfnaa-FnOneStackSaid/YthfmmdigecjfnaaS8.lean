/- FewestPasses, both sides. No condition. -/
import Derived.Test.YthfmmdigecjfnaaS6
namespace Go.Proofs.Ythfmmdigecjfnaa
open Go.RowKit

def passN (n k : Nat) : Nat := if n ≤ 1 then 0 else if n ≤ k then 1 else if n ≤ k * k then 2 else if n ≤ k * k * k then 3 else 4
theorem passN_fin : ∀ n : Fin 10, ∀ k : Fin 5, ∀ j : Fin 5, 2 ≤ k.1 → (k.1 ^ j.1 < n.1 ↔ j.1 < passN n.1 k.1) := by decide +kernel
theorem passN_lt {n k j : Nat} (hn : n ≤ 9) (hk : 2 ≤ k) (hk4 : k ≤ 4) (hj : j ≤ 4) : k ^ j < n ↔ j < passN n k := passN_fin ⟨n, by omega⟩ ⟨k, by omega⟩ ⟨j, by omega⟩ hk
theorem passN_le (n k : Nat) : passN n k ≤ 4 := by unfold passN; split <;> (try split) <;> (try split) <;> (try split) <;> omega
theorem pow_fin : ∀ k : Fin 5, ∀ j : Fin 6, k.1 ^ j.1 ≤ 1024 := by decide
theorem pow_le {k j : Nat} (hk : k ≤ 4) (hj : j ≤ 5) : k ^ j ≤ 1024 := pow_fin ⟨k, by omega⟩ ⟨j, by omega⟩

def runsNat (zs : List Int) : Nat := if zs.length = 0 then 0 else runNo zs (zs.length - 1) + 1
theorem runsN_yes {zs : List Int} (h : rowB 9 zs = true) : runsN zs = (runsNat zs : Int) := by
  simp only [runsN, runsNat, h, if_true]; split <;> simp
theorem runsNat_le {zs : List Int} (h : rowB 9 zs = true) : runsNat zs ≤ 9 := by
  have h1 := rowB_len h
  have h2 := runNo_le zs (zs.length - 1)
  unfold runsNat; split <;> omega

def fewN (zs : List Int) (k : Int) : Int := if rowB 9 zs && inR k 2 4 then (passN (runsNat zs) k.toNat : Int) else -1
theorem fewN_yes {zs : List Int} {k : Nat} (h : rowB 9 zs = true) (h2 : inR k 2 4 = true) : fewN zs (k : Int) = (passN (runsNat zs) k : Int) := by simp [fewN, h, h2]
theorem fewN_no {zs : List Int} {k : Int} (h : rowB 9 zs = false ∨ inR k 2 4 = false) : fewN zs k = -1 := by rcases h with h | h <;> simp [fewN, h]
end Go.Proofs.Ythfmmdigecjfnaa
