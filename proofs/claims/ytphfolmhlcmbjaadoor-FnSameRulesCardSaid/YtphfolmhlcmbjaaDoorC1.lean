/- The text of a code: contracts of spec.codeText and impl.codeText. No condition. -/
import Derived.Test.YtphfolmhlcmbjaaDoorA4
import Derived.Test.YtphfolmhlcmbjaaDoorRd2
import Derived.Laws.Concat
import Derived.Laws.BytesArg
import Derived.Outline
namespace Go.Proofs.YtphfolmhlcmbjaaDoor
open Go.RowKit

/-- The sign of a number from 0 to 10. -/
def sg (n : Int) : UInt8 := if n = 10 then 120 else UInt8.ofNat (48 + n.toNat)
/-- A string out of its bytes. -/
def str (l : List UInt8) : Value := .string ⟨l.toArray⟩
/-- The text of digits with the check c. -/
def codeL (zs : List Int) (c : Int) : List UInt8 := zs.map sg ++ [45, sg c]

theorem digit_cases {n : Int} (h : 0 ≤ n ∧ n ≤ 10) : n = 0 ∨ n = 1 ∨ n = 2 ∨ n = 3 ∨ n = 4 ∨ n = 5 ∨ n = 6 ∨ n = 7 ∨ n = 8 ∨ n = 9 ∨ n = 10 := by omega

theorem sign_at (n : Int) (h : 0 ≤ n ∧ n ≤ 10) (w : World) : (Instr.index 9 (.string ⟨#[48, 49, 50, 51, 52, 53, 54, 55, 56, 57, 120]⟩) (.int .i64 n)).run Tryd.prog w = .ok (.int .u8 ((sg n).toNat : Int)) w := by
  rcases digit_cases h with rfl | rfl | rfl | rfl | rfl | rfl | rfl | rfl | rfl | rfl | rfl <;> kernel_rfl

theorem cut_at10 (n : Int) (h : 0 ≤ n ∧ n ≤ 9) (w : World) : (Instr.slice 9 (.string ⟨#[48, 49, 50, 51, 52, 53, 54, 55, 56, 57]⟩) (some (.int .i64 n)) (some (.int .i64 (n + 1))) none).run Tryd.prog w = .ok (.string ⟨[sg n].toArray⟩) w := by
  rcases digit_cases ⟨h.1, by omega⟩ with rfl | rfl | rfl | rfl | rfl | rfl | rfl | rfl | rfl | rfl | rfl <;> first | omega | kernel_rfl

theorem cut_at11 (n : Int) (h : 0 ≤ n ∧ n ≤ 10) (w : World) : (Instr.slice 9 (.string ⟨#[48, 49, 50, 51, 52, 53, 54, 55, 56, 57, 120]⟩) (some (.int .i64 n)) (some (.int .i64 (n + 1))) none).run Tryd.prog w = .ok (.string ⟨[sg n].toArray⟩) w := by
  rcases digit_cases h with rfl | rfl | rfl | rfl | rfl | rfl | rfl | rfl | rfl | rfl | rfl <;> kernel_rfl

theorem ba_snoc (l : List UInt8) (x : UInt8) : (⟨l.toArray⟩ : ByteArray) ++ ⟨[x].toArray⟩ = ⟨(l ++ [x]).toArray⟩ := ByteArray.mk_append_mk _ _

def codeV (zs : List Int) : Value := str (if validD zs then codeL zs (checkF zs) else [])
theorem codeV_yes {zs : List Int} (h : validD zs = true) : codeV zs = str (codeL zs (checkF zs)) := by simp [codeV, h]
theorem codeV_no {zs : List Int} (h : ¬ validD zs = true) : codeV zs = .string ⟨#[]⟩ := by simp [codeV, h, str]

theorem Tryd.info5 : (Tryd.prog.info? 5).map (fun i => (i.zero, i.size, i.bytes)) = some (some (.int .u8 0), 1, 1) := by kernel_rfl

theorem sg_bytes (zs : List Int) : strOfNums (zs.map fun z => ((sg z).toNat : Int)) = ⟨(zs.map sg).toArray⟩ := by
  simp [strOfNums, List.map_map, Function.comp_def]
end Go.Proofs.YtphfolmhlcmbjaaDoor
