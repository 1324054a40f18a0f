/- The walk of FnRepairsComeBack. No condition. -/
import Derived.Test.YtempfagjbpnlcaaRq6
import Derived.Deep.RegionWith
namespace Go.Proofs.Ytempfagjbpnlcaa
open Go.RowKit

theorem cutLowR (s : ByteArray) (k : Nat) (h : k ≤ s.size) (W : World) : (Instr.slice 9 (.string s) none (some (.int .i64 (k : Int))) none).run Try.prog W = .ok (.string (s.extract 0 k)) W := by
  have h1 : (0 : Int) ≤ (k : Int) := by omega
  have h2 : (k : Int) ≤ (s.size : Int) := by omega
  have h3 := Try.underlying9
  go_simp
theorem cutMidR (s : ByteArray) (a b : Nat) (h : a ≤ b) (h' : b ≤ s.size) (W : World) : (Instr.slice 9 (.string s) (some (.int .i64 (a : Int))) (some (.int .i64 (b : Int))) none).run Try.prog W = .ok (.string (s.extract a b)) W := by
  have h1 : (0 : Int) ≤ (a : Int) := by omega
  have h2 : (b : Int) ≤ (s.size : Int) := by omega
  have h4 : (a : Int) ≤ (b : Int) := by omega
  have h3 := Try.underlying9
  go_simp
theorem cutHighR (s : ByteArray) (a : Nat) (h : a ≤ s.size) (W : World) : (Instr.slice 9 (.string s) (some (.int .i64 (a : Int))) none none).run Try.prog W = .ok (.string (s.extract a s.size)) W := by
  have h1 : (0 : Int) ≤ (a : Int) := by omega
  have h4 : (a : Int) ≤ (s.size : Int) := by omega
  have h3 := Try.underlying9
  go_simp

theorem damage {e0 e1 e2 e3 : Int} (k0 : 0 ≤ e0 ∧ e0 ≤ 9) (k1 : 0 ≤ e1 ∧ e1 ≤ 9) (k2 : 0 ≤ e2 ∧ e2 ≤ 9) (k3 : 0 ≤ e3 ∧ e3 ≤ 9) {k : Nat} (hk : k < 4) :
    codeL [e0, e1, e2, e3] (checkF [e0, e1, e2, e3]) ∈ repV ((codeL [e0, e1, e2, e3] (checkF [e0, e1, e2, e3])).take k ++ [sg (([e0, e1, e2, e3].getD k 0 + 1 + (k : Int)) % 10)] ++ (codeL [e0, e1, e2, e3] (checkF [e0, e1, e2, e3])).drop (k + 1)) := by
  obtain rfl | rfl | rfl | rfl : k = 0 ∨ k = 1 ∨ k = 2 ∨ k = 3 := by omega
  · exact comeback (d0 := (e0 + 1 + ((0 : Nat) : Int)) % 10) (d1 := e1) (d2 := e2) (d3 := e3) (by omega) k1 k2 k3 k0 k1 k2 k3 (by rcases (show (e0 + 1 + ((0 : Nat) : Int)) % 10 = e0 + 1 ∨ (e0 + 1 + ((0 : Nat) : Int)) % 10 = e0 - 9 by omega) with h | h <;> rw [h] <;> omega) (.inl ⟨rfl, rfl, rfl⟩)
  · exact comeback (d0 := e0) (d1 := (e1 + 1 + ((1 : Nat) : Int)) % 10) (d2 := e2) (d3 := e3) k0 (by omega) k2 k3 k0 k1 k2 k3 (by rcases (show (e1 + 1 + ((1 : Nat) : Int)) % 10 = e1 + 2 ∨ (e1 + 1 + ((1 : Nat) : Int)) % 10 = e1 - 8 by omega) with h | h <;> rw [h] <;> omega) (.inr (.inl ⟨rfl, rfl, rfl⟩))
  · exact comeback (d0 := e0) (d1 := e1) (d2 := (e2 + 1 + ((2 : Nat) : Int)) % 10) (d3 := e3) k0 k1 (by omega) k3 k0 k1 k2 k3 (by rcases (show (e2 + 1 + ((2 : Nat) : Int)) % 10 = e2 + 3 ∨ (e2 + 1 + ((2 : Nat) : Int)) % 10 = e2 - 7 by omega) with h | h <;> rw [h] <;> omega) (.inr (.inr (.inl ⟨rfl, rfl, rfl⟩)))
  · exact comeback (d0 := e0) (d1 := e1) (d2 := e2) (d3 := (e3 + 1 + ((3 : Nat) : Int)) % 10) k0 k1 k2 (by omega) k0 k1 k2 k3 (by rcases (show (e3 + 1 + ((3 : Nat) : Int)) % 10 = e3 + 4 ∨ (e3 + 1 + ((3 : Nat) : Int)) % 10 = e3 - 6 by omega) with h | h <;> rw [h] <;> omega) (.inr (.inr (.inr (.inl ⟨rfl, rfl, rfl⟩))))
theorem swapped {e0 e1 e2 e3 : Int} (k0 : 0 ≤ e0 ∧ e0 ≤ 9) (k1 : 0 ≤ e1 ∧ e1 ≤ 9) (k2 : 0 ≤ e2 ∧ e2 ≤ 9) (k3 : 0 ≤ e3 ∧ e3 ≤ 9) (hne : e0 ≠ e1) :
    codeL [e0, e1, e2, e3] (checkF [e0, e1, e2, e3]) ∈ repV (((codeL [e0, e1, e2, e3] (checkF [e0, e1, e2, e3])).take 2).drop 1 ++ (codeL [e0, e1, e2, e3] (checkF [e0, e1, e2, e3])).take 1 ++ (codeL [e0, e1, e2, e3] (checkF [e0, e1, e2, e3])).drop 2) :=
  comeback (d0 := e1) (d1 := e0) (d2 := e2) (d3 := e3) k1 k0 k2 k3 k0 k1 k2 k3 (by omega) (.inr (.inr (.inr (.inr ⟨rfl, rfl, rfl, rfl⟩))))

theorem ex_list (s : ByteArray) (a b : Nat) : (s.extract a b).data.toList = (s.data.toList.take b).drop a := by
  rw [ByteArray.data_extract, Array.toList_extract, List.extract_eq_take_drop, List.drop_take]
theorem digit_cut {o : Nat} (h : o < 10) : ((⟨#[48, 49, 50, 51, 52, 53, 54, 55, 56, 57]⟩ : ByteArray).extract o (o + 1)).data.toList = [sg (o : Int)] := by
  obtain rfl | rfl | rfl | rfl | rfl | rfl | rfl | rfl | rfl | rfl : o = 0 ∨ o = 1 ∨ o = 2 ∨ o = 3 ∨ o = 4 ∨ o = 5 ∨ o = 6 ∨ o = 7 ∨ o = 8 ∨ o = 9 := by omega
  all_goals rfl
/-- T is in what the texts are repaired to. -/
theorem in_repS {T X : ByteArray} (h : T.data.toList ∈ repV X.data.toList) : T ∈ repS X := by
  unfold repS
  exact List.mem_map.2 ⟨_, h, by simp⟩
end Go.Proofs.Ytempfagjbpnlcaa
