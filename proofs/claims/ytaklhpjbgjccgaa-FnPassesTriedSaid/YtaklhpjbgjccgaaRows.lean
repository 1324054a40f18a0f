/-
  No cell of these rows narrows 'for every input' (looked for: loops, veiled, ifaces, maps, wideKeys, modest, calm, conditions, laid).
  DERIVED. THE GIVEN ROWS OF THIS SEAT. 10 by the template 'for every input the law returns true; each argument reads behind the call as it read before'; 0 by the template 'total and deterministic' (their statements: YtaklhpjbgjccgaaTotals.lean).
  GIVEN WITH THE SEED: the statements are not yours to turn. If you find one false, say at which input.
  Laid BY PROGRAM, IN A SANDBOX (cutbox-rows.mjs): the forced cells as the released guide's own fill.sh prints them over the translation 8d9d69f35f71d6e5… (all of the seat's roots in one cut). By AI agents, Wed Nov 11 2026. No macro, syntax, notation, axiom, sorry.
-/
import Derived.Test.YtaklhpjbgjccgaaChecked
import GoSem.Claim
import GoSem.ClaimJoined
import GoSem.ClaimMapViews
import Derived.JoinedTies
import Derived.KernelRfl
namespace Go.Proofs.Ytaklhpjbgjccgaa
/- THE CELL 'sum', in the pinned program and in every row, IS THE sha256 OF THE DUMP (.gsa) THAT YtaklhpjbgjccgaaProg.lean LOADS. Nothing in Lean hashes anything: it is a label: what it is worth is what the hold of that sum in a sandbox is worth. -/
noncomputable def Try.pinned : Pinned := { name := "ytaklhpjbgjccgaa", sum := "8d9d69f35f71d6e501f805a967872bd570228fdf95a619108de4105d1036b385", checked := Try.checked }
namespace Rows
def none {H : Type} : Left H := { results := [], args := [] }

/-- 'laws.FnSortedIsOneRun': WHATEVER THE INPUT: true; the input reads as it did. -/
def fnSortedIsOneRunSpec : ChangeSpec := { name := "fnSortedIsOneRun", fn := fun _ => fun
  | [d] => { results := [.lit (.bool true)], args := [d] }
  | _ => none }
def fnSortedIsOneRunRow : OpenClaim := { program := "ytaklhpjbgjccgaa", sum := "8d9d69f35f71d6e501f805a967872bd570228fdf95a619108de4105d1036b385", func := "loop.example/lettersthatarrive/laws.FnSortedIsOneRun", spec := "fnSortedIsOneRun", apart := false }
def FnSortedIsOneRunSaid : Prop := fnSortedIsOneRunRow.holds Try.pinned (OpenSpec.ofChange fnSortedIsOneRunSpec)

/-- ITS FALSE NEIGHBOUR: 'it returns false'. Refute it at one input. -/
def fnSortedIsOneRunWrong : ChangeSpec := { name := "fnSortedIsOneRun", fn := fun _ => fun
  | [d] => { results := [.lit (.bool false)], args := [d] }
  | _ => none }
def FnSortedIsOneRunWrongFalsely : Prop := fnSortedIsOneRunRow.holds Try.pinned (OpenSpec.ofChange fnSortedIsOneRunWrong)

/-- 'laws.FnExactPassOf': WHATEVER THE INPUT: true; the input reads as it did. -/
def fnExactPassOfSpec : ChangeSpec := { name := "fnExactPassOf", fn := fun _ => fun
  | [d1, d2, d3] => { results := [.lit (.bool true)], args := [d1, d2, d3] }
  | _ => none }
def fnExactPassOfRow : OpenClaim := { program := "ytaklhpjbgjccgaa", sum := "8d9d69f35f71d6e501f805a967872bd570228fdf95a619108de4105d1036b385", func := "loop.example/lettersthatarrive/laws.FnExactPassOf", spec := "fnExactPassOf", apart := false }
def FnExactPassOfSaid : Prop := fnExactPassOfRow.holds Try.pinned (OpenSpec.ofChange fnExactPassOfSpec)

/-- ITS FALSE NEIGHBOUR: 'it returns false'. Refute it at one input. -/
def fnExactPassOfWrong : ChangeSpec := { name := "fnExactPassOf", fn := fun _ => fun
  | [d1, d2, d3] => { results := [.lit (.bool false)], args := [d1, d2, d3] }
  | _ => none }
def FnExactPassOfWrongFalsely : Prop := fnExactPassOfRow.holds Try.pinned (OpenSpec.ofChange fnExactPassOfWrong)

/-- 'laws.FnPassOf': WHATEVER THE INPUT: true; the input reads as it did. -/
def fnPassOfSpec : ChangeSpec := { name := "fnPassOf", fn := fun _ => fun
  | [d] => { results := [.lit (.bool true)], args := [d] }
  | _ => none }
def fnPassOfRow : OpenClaim := { program := "ytaklhpjbgjccgaa", sum := "8d9d69f35f71d6e501f805a967872bd570228fdf95a619108de4105d1036b385", func := "loop.example/lettersthatarrive/laws.FnPassOf", spec := "fnPassOf", apart := false }
def FnPassOfSaid : Prop := fnPassOfRow.holds Try.pinned (OpenSpec.ofChange fnPassOfSpec)

/-- ITS FALSE NEIGHBOUR: 'it returns false'. Refute it at one input. -/
def fnPassOfWrong : ChangeSpec := { name := "fnPassOf", fn := fun _ => fun
  | [d] => { results := [.lit (.bool false)], args := [d] }
  | _ => none }
def FnPassOfWrongFalsely : Prop := fnPassOfRow.holds Try.pinned (OpenSpec.ofChange fnPassOfWrong)

/-- 'laws.FnPassesUndo': WHATEVER THE INPUT: true; the input reads as it did. -/
def fnPassesUndoSpec : ChangeSpec := { name := "fnPassesUndo", fn := fun _ => fun
  | [d] => { results := [.lit (.bool true)], args := [d] }
  | _ => none }
def fnPassesUndoRow : OpenClaim := { program := "ytaklhpjbgjccgaa", sum := "8d9d69f35f71d6e501f805a967872bd570228fdf95a619108de4105d1036b385", func := "loop.example/lettersthatarrive/laws.FnPassesUndo", spec := "fnPassesUndo", apart := false }
def FnPassesUndoSaid : Prop := fnPassesUndoRow.holds Try.pinned (OpenSpec.ofChange fnPassesUndoSpec)

/-- ITS FALSE NEIGHBOUR: 'it returns false'. Refute it at one input. -/
def fnPassesUndoWrong : ChangeSpec := { name := "fnPassesUndo", fn := fun _ => fun
  | [d] => { results := [.lit (.bool false)], args := [d] }
  | _ => none }
def FnPassesUndoWrongFalsely : Prop := fnPassesUndoRow.holds Try.pinned (OpenSpec.ofChange fnPassesUndoWrong)

/-- 'laws.FnExactPassesTried': WHATEVER THE INPUT: true; the input reads as it did. -/
def fnExactPassesTriedSpec : ChangeSpec := { name := "fnExactPassesTried", fn := fun _ => fun
  | [d1, d2] => { results := [.lit (.bool true)], args := [d1, d2] }
  | _ => none }
def fnExactPassesTriedRow : OpenClaim := { program := "ytaklhpjbgjccgaa", sum := "8d9d69f35f71d6e501f805a967872bd570228fdf95a619108de4105d1036b385", func := "loop.example/lettersthatarrive/laws.FnExactPassesTried", spec := "fnExactPassesTried", unfollowed := true, recurses := true, apart := false }
def FnExactPassesTriedSaid : Prop := fnExactPassesTriedRow.holds Try.pinned (OpenSpec.ofChange fnExactPassesTriedSpec)

/-- ITS FALSE NEIGHBOUR: 'it returns false'. Refute it at one input. -/
def fnExactPassesTriedWrong : ChangeSpec := { name := "fnExactPassesTried", fn := fun _ => fun
  | [d1, d2] => { results := [.lit (.bool false)], args := [d1, d2] }
  | _ => none }
def FnExactPassesTriedWrongFalsely : Prop := fnExactPassesTriedRow.holds Try.pinned (OpenSpec.ofChange fnExactPassesTriedWrong)

/-- 'laws.FnPassesTried': WHATEVER THE INPUT: true; the input reads as it did. -/
def fnPassesTriedSpec : ChangeSpec := { name := "fnPassesTried", fn := fun _ => fun
  | [d] => { results := [.lit (.bool true)], args := [d] }
  | _ => none }
def fnPassesTriedRow : OpenClaim := { program := "ytaklhpjbgjccgaa", sum := "8d9d69f35f71d6e501f805a967872bd570228fdf95a619108de4105d1036b385", func := "loop.example/lettersthatarrive/laws.FnPassesTried", spec := "fnPassesTried", unfollowed := true, recurses := true, apart := false }
def FnPassesTriedSaid : Prop := fnPassesTriedRow.holds Try.pinned (OpenSpec.ofChange fnPassesTriedSpec)

/-- ITS FALSE NEIGHBOUR: 'it returns false'. Refute it at one input. -/
def fnPassesTriedWrong : ChangeSpec := { name := "fnPassesTried", fn := fun _ => fun
  | [d] => { results := [.lit (.bool false)], args := [d] }
  | _ => none }
def FnPassesTriedWrongFalsely : Prop := fnPassesTriedRow.holds Try.pinned (OpenSpec.ofChange fnPassesTriedWrong)

/-- 'laws.FnFewestPasses': WHATEVER THE INPUT: true; the input reads as it did. -/
def fnFewestPassesSpec : ChangeSpec := { name := "fnFewestPasses", fn := fun _ => fun
  | [d] => { results := [.lit (.bool true)], args := [d] }
  | _ => none }
def fnFewestPassesRow : OpenClaim := { program := "ytaklhpjbgjccgaa", sum := "8d9d69f35f71d6e501f805a967872bd570228fdf95a619108de4105d1036b385", func := "loop.example/lettersthatarrive/laws.FnFewestPasses", spec := "fnFewestPasses", unfollowed := true, recurses := true, apart := false }
def FnFewestPassesSaid : Prop := fnFewestPassesRow.holds Try.pinned (OpenSpec.ofChange fnFewestPassesSpec)

/-- ITS FALSE NEIGHBOUR: 'it returns false'. Refute it at one input. -/
def fnFewestPassesWrong : ChangeSpec := { name := "fnFewestPasses", fn := fun _ => fun
  | [d] => { results := [.lit (.bool false)], args := [d] }
  | _ => none }
def FnFewestPassesWrongFalsely : Prop := fnFewestPassesRow.holds Try.pinned (OpenSpec.ofChange fnFewestPassesWrong)

/-- 'laws.FnRepairsOf': WHATEVER THE INPUT: true; the input reads as it did. -/
def fnRepairsOfSpec : ChangeSpec := { name := "fnRepairsOf", fn := fun _ => fun
  | [d] => { results := [.lit (.bool true)], args := [d] }
  | _ => none }
def fnRepairsOfRow : OpenClaim := { program := "ytaklhpjbgjccgaa", sum := "8d9d69f35f71d6e501f805a967872bd570228fdf95a619108de4105d1036b385", func := "loop.example/lettersthatarrive/laws.FnRepairsOf", spec := "fnRepairsOf", inPlace := ["internal/bytealg.IndexByteString"], unfollowed := true, recurses := true, apart := false }
def FnRepairsOfSaid : Prop := fnRepairsOfRow.holds Try.pinned (OpenSpec.ofChange fnRepairsOfSpec)

/-- ITS FALSE NEIGHBOUR: 'it returns false'. Refute it at one input. -/
def fnRepairsOfWrong : ChangeSpec := { name := "fnRepairsOf", fn := fun _ => fun
  | [d] => { results := [.lit (.bool false)], args := [d] }
  | _ => none }
def FnRepairsOfWrongFalsely : Prop := fnRepairsOfRow.holds Try.pinned (OpenSpec.ofChange fnRepairsOfWrong)

/-- 'laws.FnExactRepairsOf': WHATEVER THE INPUT: true; the input reads as it did. -/
def fnExactRepairsOfSpec : ChangeSpec := { name := "fnExactRepairsOf", fn := fun _ => fun
  | [d] => { results := [.lit (.bool true)], args := [d] }
  | _ => none }
def fnExactRepairsOfRow : OpenClaim := { program := "ytaklhpjbgjccgaa", sum := "8d9d69f35f71d6e501f805a967872bd570228fdf95a619108de4105d1036b385", func := "loop.example/lettersthatarrive/laws.FnExactRepairsOf", spec := "fnExactRepairsOf", inPlace := ["internal/bytealg.IndexByteString"], unfollowed := true, recurses := true, apart := false }
def FnExactRepairsOfSaid : Prop := fnExactRepairsOfRow.holds Try.pinned (OpenSpec.ofChange fnExactRepairsOfSpec)

/-- ITS FALSE NEIGHBOUR: 'it returns false'. Refute it at one input. -/
def fnExactRepairsOfWrong : ChangeSpec := { name := "fnExactRepairsOf", fn := fun _ => fun
  | [d] => { results := [.lit (.bool false)], args := [d] }
  | _ => none }
def FnExactRepairsOfWrongFalsely : Prop := fnExactRepairsOfRow.holds Try.pinned (OpenSpec.ofChange fnExactRepairsOfWrong)

/-- 'laws.FnRepairsComeBack': WHATEVER THE INPUT: true; the input reads as it did. -/
def fnRepairsComeBackSpec : ChangeSpec := { name := "fnRepairsComeBack", fn := fun _ => fun
  | [d] => { results := [.lit (.bool true)], args := [d] }
  | _ => none }
def fnRepairsComeBackRow : OpenClaim := { program := "ytaklhpjbgjccgaa", sum := "8d9d69f35f71d6e501f805a967872bd570228fdf95a619108de4105d1036b385", func := "loop.example/lettersthatarrive/laws.FnRepairsComeBack", spec := "fnRepairsComeBack", inPlace := ["internal/bytealg.IndexByteString"], unfollowed := true, recurses := true, apart := false }
def FnRepairsComeBackSaid : Prop := fnRepairsComeBackRow.holds Try.pinned (OpenSpec.ofChange fnRepairsComeBackSpec)

/-- ITS FALSE NEIGHBOUR: 'it returns false'. Refute it at one input. -/
def fnRepairsComeBackWrong : ChangeSpec := { name := "fnRepairsComeBack", fn := fun _ => fun
  | [d] => { results := [.lit (.bool false)], args := [d] }
  | _ => none }
def FnRepairsComeBackWrongFalsely : Prop := fnRepairsComeBackRow.holds Try.pinned (OpenSpec.ofChange fnRepairsComeBackWrong)

/- THE SECOND FORM. 'bulk': how many values and letters a reading holds, each counted each time it is reached (what is shared counts as often as it is met; a slice's spare places count too). A statement '..UptoSaid' is the law's where the arguments, and the package variables that the reading takes, are together of bulk at most 1048576: NARROWER than '..Said'. Prove '..Said' where nothing that the law and all that it calls make is longer than what came in: it says more and counts as full. Else prove '..UptoSaid'. A law counts once. -/
mutual
def uptoBulk {H : Type} : DataW H → Nat
  | .lit (.string bytes) => bytes.length + 1
  | .lit _ => 1
  | .nil => 1
  | .ptr d => uptoBulk d + 1
  | .slice elems spare => uptoBulkAll elems + uptoBulkAll spare + 1
  | .agg parts => uptoBulkAll parts + 1
  | .iface _ d => uptoBulk d + 1
  | .map entries => uptoBulkEntries entries + 1
  | .held _ => 1
def uptoBulkAll {H : Type} : List (DataW H) → Nat
  | [] => 0
  | d :: r => uptoBulk d + uptoBulkAll r
def uptoBulkEntries {H : Type} : List (Lit × DataW H) → Nat
  | [] => 0
  | x :: r => uptoBulkEntry x + uptoBulkEntries r
def uptoBulkEntry {H : Type} : Lit × DataW H → Nat
  | (.string bytes, d) => bytes.length + uptoBulk d + 1
  | (_, d) => uptoBulk d + 1
 end
def uptoSmall : (H : Type) → List (DataW H) → Bool := fun _ ds => decide (uptoBulkAll ds ≤ 1048576)
def OpenSpec.upto (s : _root_.Go.ChangeSpec) : _root_.Go.OpenSpec := { _root_.Go.OpenSpec.ofChange s with cond := some uptoSmall }

/-- 'laws.FnSortedIsOneRun', WHERE WHAT IT READS IS OF BULK AT MOST 1048576: true; the input reads as it did. -/
def fnSortedIsOneRunUptoRow : OpenClaim := { program := "ytaklhpjbgjccgaa", sum := "8d9d69f35f71d6e501f805a967872bd570228fdf95a619108de4105d1036b385", func := "loop.example/lettersthatarrive/laws.FnSortedIsOneRun", spec := "fnSortedIsOneRun", apart := false, narrowed := true }
def FnSortedIsOneRunUptoSaid : Prop := fnSortedIsOneRunUptoRow.holds Try.pinned (OpenSpec.upto fnSortedIsOneRunSpec)

/-- 'laws.FnExactPassOf', WHERE WHAT IT READS IS OF BULK AT MOST 1048576: true; the input reads as it did. -/
def fnExactPassOfUptoRow : OpenClaim := { program := "ytaklhpjbgjccgaa", sum := "8d9d69f35f71d6e501f805a967872bd570228fdf95a619108de4105d1036b385", func := "loop.example/lettersthatarrive/laws.FnExactPassOf", spec := "fnExactPassOf", apart := false, narrowed := true }
def FnExactPassOfUptoSaid : Prop := fnExactPassOfUptoRow.holds Try.pinned (OpenSpec.upto fnExactPassOfSpec)

/-- 'laws.FnPassOf', WHERE WHAT IT READS IS OF BULK AT MOST 1048576: true; the input reads as it did. -/
def fnPassOfUptoRow : OpenClaim := { program := "ytaklhpjbgjccgaa", sum := "8d9d69f35f71d6e501f805a967872bd570228fdf95a619108de4105d1036b385", func := "loop.example/lettersthatarrive/laws.FnPassOf", spec := "fnPassOf", apart := false, narrowed := true }
def FnPassOfUptoSaid : Prop := fnPassOfUptoRow.holds Try.pinned (OpenSpec.upto fnPassOfSpec)

/-- 'laws.FnPassesUndo', WHERE WHAT IT READS IS OF BULK AT MOST 1048576: true; the input reads as it did. -/
def fnPassesUndoUptoRow : OpenClaim := { program := "ytaklhpjbgjccgaa", sum := "8d9d69f35f71d6e501f805a967872bd570228fdf95a619108de4105d1036b385", func := "loop.example/lettersthatarrive/laws.FnPassesUndo", spec := "fnPassesUndo", apart := false, narrowed := true }
def FnPassesUndoUptoSaid : Prop := fnPassesUndoUptoRow.holds Try.pinned (OpenSpec.upto fnPassesUndoSpec)

/-- 'laws.FnExactPassesTried', WHERE WHAT IT READS IS OF BULK AT MOST 1048576: true; the input reads as it did. -/
def fnExactPassesTriedUptoRow : OpenClaim := { program := "ytaklhpjbgjccgaa", sum := "8d9d69f35f71d6e501f805a967872bd570228fdf95a619108de4105d1036b385", func := "loop.example/lettersthatarrive/laws.FnExactPassesTried", spec := "fnExactPassesTried", unfollowed := true, recurses := true, apart := false, narrowed := true }
def FnExactPassesTriedUptoSaid : Prop := fnExactPassesTriedUptoRow.holds Try.pinned (OpenSpec.upto fnExactPassesTriedSpec)

/-- 'laws.FnPassesTried', WHERE WHAT IT READS IS OF BULK AT MOST 1048576: true; the input reads as it did. -/
def fnPassesTriedUptoRow : OpenClaim := { program := "ytaklhpjbgjccgaa", sum := "8d9d69f35f71d6e501f805a967872bd570228fdf95a619108de4105d1036b385", func := "loop.example/lettersthatarrive/laws.FnPassesTried", spec := "fnPassesTried", unfollowed := true, recurses := true, apart := false, narrowed := true }
def FnPassesTriedUptoSaid : Prop := fnPassesTriedUptoRow.holds Try.pinned (OpenSpec.upto fnPassesTriedSpec)

/-- 'laws.FnFewestPasses', WHERE WHAT IT READS IS OF BULK AT MOST 1048576: true; the input reads as it did. -/
def fnFewestPassesUptoRow : OpenClaim := { program := "ytaklhpjbgjccgaa", sum := "8d9d69f35f71d6e501f805a967872bd570228fdf95a619108de4105d1036b385", func := "loop.example/lettersthatarrive/laws.FnFewestPasses", spec := "fnFewestPasses", unfollowed := true, recurses := true, apart := false, narrowed := true }
def FnFewestPassesUptoSaid : Prop := fnFewestPassesUptoRow.holds Try.pinned (OpenSpec.upto fnFewestPassesSpec)

/-- 'laws.FnRepairsOf', WHERE WHAT IT READS IS OF BULK AT MOST 1048576: true; the input reads as it did. -/
def fnRepairsOfUptoRow : OpenClaim := { program := "ytaklhpjbgjccgaa", sum := "8d9d69f35f71d6e501f805a967872bd570228fdf95a619108de4105d1036b385", func := "loop.example/lettersthatarrive/laws.FnRepairsOf", spec := "fnRepairsOf", inPlace := ["internal/bytealg.IndexByteString"], unfollowed := true, recurses := true, apart := false, narrowed := true }
def FnRepairsOfUptoSaid : Prop := fnRepairsOfUptoRow.holds Try.pinned (OpenSpec.upto fnRepairsOfSpec)

/-- 'laws.FnExactRepairsOf', WHERE WHAT IT READS IS OF BULK AT MOST 1048576: true; the input reads as it did. -/
def fnExactRepairsOfUptoRow : OpenClaim := { program := "ytaklhpjbgjccgaa", sum := "8d9d69f35f71d6e501f805a967872bd570228fdf95a619108de4105d1036b385", func := "loop.example/lettersthatarrive/laws.FnExactRepairsOf", spec := "fnExactRepairsOf", inPlace := ["internal/bytealg.IndexByteString"], unfollowed := true, recurses := true, apart := false, narrowed := true }
def FnExactRepairsOfUptoSaid : Prop := fnExactRepairsOfUptoRow.holds Try.pinned (OpenSpec.upto fnExactRepairsOfSpec)

/-- 'laws.FnRepairsComeBack', WHERE WHAT IT READS IS OF BULK AT MOST 1048576: true; the input reads as it did. -/
def fnRepairsComeBackUptoRow : OpenClaim := { program := "ytaklhpjbgjccgaa", sum := "8d9d69f35f71d6e501f805a967872bd570228fdf95a619108de4105d1036b385", func := "loop.example/lettersthatarrive/laws.FnRepairsComeBack", spec := "fnRepairsComeBack", inPlace := ["internal/bytealg.IndexByteString"], unfollowed := true, recurses := true, apart := false, narrowed := true }
def FnRepairsComeBackUptoSaid : Prop := fnRepairsComeBackUptoRow.holds Try.pinned (OpenSpec.upto fnRepairsComeBackSpec)

end Rows
end Go.Proofs.Ytaklhpjbgjccgaa
