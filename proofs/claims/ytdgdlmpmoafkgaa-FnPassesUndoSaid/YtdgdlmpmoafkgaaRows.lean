/-
  No cell of these rows narrows 'for every input' (looked for: loops, veiled, ifaces, maps, wideKeys, modest, calm, conditions, laid).
  DERIVED. THE GIVEN ROWS OF THIS SEAT. 7 by the template 'for every input the law returns true; each argument reads behind the call as it read before'; 0 by the template 'total and deterministic' (their statements: YtdgdlmpmoafkgaaTotals.lean).
  GIVEN WITH THE SEED: the statements are not yours to turn. If you find one false, say at which input.
  Laid BY PROGRAM, IN A SANDBOX (cutbox-rows.mjs): the forced cells as the released guide's own fill.sh prints them over the translation 8c0b0b5837ffc9b7… (all of the seat's roots in one cut). By AI agents, Wed Nov 11 2026. No macro, syntax, notation, axiom, sorry.
-/
import Derived.Test.YtdgdlmpmoafkgaaChecked
import GoSem.Claim
import GoSem.ClaimJoined
import GoSem.ClaimMapViews
import Derived.JoinedTies
import Derived.KernelRfl
namespace Go.Proofs.Ytdgdlmpmoafkgaa
/- THE CELL 'sum', in the pinned program and in every row, IS THE sha256 OF THE DUMP (.gsa) THAT YtdgdlmpmoafkgaaProg.lean LOADS. Nothing in Lean hashes anything: it is a label: what it is worth is what the hold of that sum in a sandbox is worth. -/
noncomputable def Try.pinned : Pinned := { name := "ytdgdlmpmoafkgaa", sum := "8c0b0b5837ffc9b7a62eb074da860bf5dc86077c40c121793018af82cdedba31", checked := Try.checked }
namespace Rows
def none {H : Type} : Left H := { results := [], args := [] }

/-- 'laws.FnExactPassOf': WHATEVER THE INPUT: true; the input reads as it did. -/
def fnExactPassOfSpec : ChangeSpec := { name := "fnExactPassOf", fn := fun _ => fun
  | [d1, d2, d3] => { results := [.lit (.bool true)], args := [d1, d2, d3] }
  | _ => none }
def fnExactPassOfRow : OpenClaim := { program := "ytdgdlmpmoafkgaa", sum := "8c0b0b5837ffc9b7a62eb074da860bf5dc86077c40c121793018af82cdedba31", func := "loop.example/lettersthatarrive/laws.FnExactPassOf", spec := "fnExactPassOf", apart := false }
def FnExactPassOfSaid : Prop := fnExactPassOfRow.holds Try.pinned (OpenSpec.ofChange fnExactPassOfSpec)

/-- ITS FALSE NEIGHBOUR: 'it returns false'. Refute it at one input. -/
def fnExactPassOfWrong : ChangeSpec := { name := "fnExactPassOf", fn := fun _ => fun
  | [d1, d2, d3] => { results := [.lit (.bool false)], args := [d1, d2, d3] }
  | _ => none }
def FnExactPassOfWrongFalsely : Prop := fnExactPassOfRow.holds Try.pinned (OpenSpec.ofChange fnExactPassOfWrong)

/-- 'laws.FnPassOf': WHATEVER THE INPUT: true; the input reads as it did. -/
def fnPassOfSpec : ChangeSpec := { name := "fnPassOf", fn := fun _ => fun
  | [d] => { results := [.lit (.bool true)], args := [d] }
  | _ => none }
def fnPassOfRow : OpenClaim := { program := "ytdgdlmpmoafkgaa", sum := "8c0b0b5837ffc9b7a62eb074da860bf5dc86077c40c121793018af82cdedba31", func := "loop.example/lettersthatarrive/laws.FnPassOf", spec := "fnPassOf", apart := false }
def FnPassOfSaid : Prop := fnPassOfRow.holds Try.pinned (OpenSpec.ofChange fnPassOfSpec)

/-- ITS FALSE NEIGHBOUR: 'it returns false'. Refute it at one input. -/
def fnPassOfWrong : ChangeSpec := { name := "fnPassOf", fn := fun _ => fun
  | [d] => { results := [.lit (.bool false)], args := [d] }
  | _ => none }
def FnPassOfWrongFalsely : Prop := fnPassOfRow.holds Try.pinned (OpenSpec.ofChange fnPassOfWrong)

/-- 'laws.FnPassesUndo': WHATEVER THE INPUT: true; the input reads as it did. -/
def fnPassesUndoSpec : ChangeSpec := { name := "fnPassesUndo", fn := fun _ => fun
  | [d] => { results := [.lit (.bool true)], args := [d] }
  | _ => none }
def fnPassesUndoRow : OpenClaim := { program := "ytdgdlmpmoafkgaa", sum := "8c0b0b5837ffc9b7a62eb074da860bf5dc86077c40c121793018af82cdedba31", func := "loop.example/lettersthatarrive/laws.FnPassesUndo", spec := "fnPassesUndo", apart := false }
def FnPassesUndoSaid : Prop := fnPassesUndoRow.holds Try.pinned (OpenSpec.ofChange fnPassesUndoSpec)

/-- ITS FALSE NEIGHBOUR: 'it returns false'. Refute it at one input. -/
def fnPassesUndoWrong : ChangeSpec := { name := "fnPassesUndo", fn := fun _ => fun
  | [d] => { results := [.lit (.bool false)], args := [d] }
  | _ => none }
def FnPassesUndoWrongFalsely : Prop := fnPassesUndoRow.holds Try.pinned (OpenSpec.ofChange fnPassesUndoWrong)

/-- 'laws.FnExactOneStack': WHATEVER THE INPUT: true; the input reads as it did. -/
def fnExactOneStackSpec : ChangeSpec := { name := "fnExactOneStack", fn := fun _ => fun
  | [d] => { results := [.lit (.bool true)], args := [d] }
  | _ => none }
def fnExactOneStackRow : OpenClaim := { program := "ytdgdlmpmoafkgaa", sum := "8c0b0b5837ffc9b7a62eb074da860bf5dc86077c40c121793018af82cdedba31", func := "loop.example/lettersthatarrive/laws.FnExactOneStack", spec := "fnExactOneStack", apart := false }
def FnExactOneStackSaid : Prop := fnExactOneStackRow.holds Try.pinned (OpenSpec.ofChange fnExactOneStackSpec)

/-- ITS FALSE NEIGHBOUR: 'it returns false'. Refute it at one input. -/
def fnExactOneStackWrong : ChangeSpec := { name := "fnExactOneStack", fn := fun _ => fun
  | [d] => { results := [.lit (.bool false)], args := [d] }
  | _ => none }
def FnExactOneStackWrongFalsely : Prop := fnExactOneStackRow.holds Try.pinned (OpenSpec.ofChange fnExactOneStackWrong)

/-- 'laws.FnOneStack': WHATEVER THE INPUT: true; the input reads as it did. -/
def fnOneStackSpec : ChangeSpec := { name := "fnOneStack", fn := fun _ => fun
  | [d] => { results := [.lit (.bool true)], args := [d] }
  | _ => none }
def fnOneStackRow : OpenClaim := { program := "ytdgdlmpmoafkgaa", sum := "8c0b0b5837ffc9b7a62eb074da860bf5dc86077c40c121793018af82cdedba31", func := "loop.example/lettersthatarrive/laws.FnOneStack", spec := "fnOneStack", apart := false }
def FnOneStackSaid : Prop := fnOneStackRow.holds Try.pinned (OpenSpec.ofChange fnOneStackSpec)

/-- ITS FALSE NEIGHBOUR: 'it returns false'. Refute it at one input. -/
def fnOneStackWrong : ChangeSpec := { name := "fnOneStack", fn := fun _ => fun
  | [d] => { results := [.lit (.bool false)], args := [d] }
  | _ => none }
def FnOneStackWrongFalsely : Prop := fnOneStackRow.holds Try.pinned (OpenSpec.ofChange fnOneStackWrong)

/-- 'laws.FnStackAgain': WHATEVER THE INPUT: true; the input reads as it did. -/
def fnStackAgainSpec : ChangeSpec := { name := "fnStackAgain", fn := fun _ => fun
  | [d] => { results := [.lit (.bool true)], args := [d] }
  | _ => none }
def fnStackAgainRow : OpenClaim := { program := "ytdgdlmpmoafkgaa", sum := "8c0b0b5837ffc9b7a62eb074da860bf5dc86077c40c121793018af82cdedba31", func := "loop.example/lettersthatarrive/laws.FnStackAgain", spec := "fnStackAgain", apart := false }
def FnStackAgainSaid : Prop := fnStackAgainRow.holds Try.pinned (OpenSpec.ofChange fnStackAgainSpec)

/-- ITS FALSE NEIGHBOUR: 'it returns false'. Refute it at one input. -/
def fnStackAgainWrong : ChangeSpec := { name := "fnStackAgain", fn := fun _ => fun
  | [d] => { results := [.lit (.bool false)], args := [d] }
  | _ => none }
def FnStackAgainWrongFalsely : Prop := fnStackAgainRow.holds Try.pinned (OpenSpec.ofChange fnStackAgainWrong)

/-- 'laws.FnSortedIsOneRun': WHATEVER THE INPUT: true; the input reads as it did. -/
def fnSortedIsOneRunSpec : ChangeSpec := { name := "fnSortedIsOneRun", fn := fun _ => fun
  | [d] => { results := [.lit (.bool true)], args := [d] }
  | _ => none }
def fnSortedIsOneRunRow : OpenClaim := { program := "ytdgdlmpmoafkgaa", sum := "8c0b0b5837ffc9b7a62eb074da860bf5dc86077c40c121793018af82cdedba31", func := "loop.example/lettersthatarrive/laws.FnSortedIsOneRun", spec := "fnSortedIsOneRun", apart := false }
def FnSortedIsOneRunSaid : Prop := fnSortedIsOneRunRow.holds Try.pinned (OpenSpec.ofChange fnSortedIsOneRunSpec)

/-- ITS FALSE NEIGHBOUR: 'it returns false'. Refute it at one input. -/
def fnSortedIsOneRunWrong : ChangeSpec := { name := "fnSortedIsOneRun", fn := fun _ => fun
  | [d] => { results := [.lit (.bool false)], args := [d] }
  | _ => none }
def FnSortedIsOneRunWrongFalsely : Prop := fnSortedIsOneRunRow.holds Try.pinned (OpenSpec.ofChange fnSortedIsOneRunWrong)

/- THE SECOND FORM. 'bulk': how many values and letters a reading holds, each counted each time it is reached (what is shared counts as often as it is met; a slice's spare places count too). A statement '..UptoSaid' is the law's where the arguments, and the package variables that the reading takes, are together of bulk at most 1048576: NARROWER than '..Said'. Prove '..Said' where nothing that the law and all that it calls make is longer than what came in: it says more and counts as full. Else prove '..UptoSaid'. A law counts once. -/
mutual
def uptoBulk {H : Type} : DataW H → Nat
  | .lit (.string bytes) => bytes.length + 1
  | .lit _ => 1
  | .nil => 1
  | .ptr d => uptoBulk d + 1
  | .slice elems spare => uptoBulkAll elems + uptoBulkAll spare + 1
  | .agg parts => uptoBulkAll parts + 1
  | .iface _ d => uptoBulk d + 1
  | .map entries => uptoBulkEntries entries + 1
  | .held _ => 1
def uptoBulkAll {H : Type} : List (DataW H) → Nat
  | [] => 0
  | d :: r => uptoBulk d + uptoBulkAll r
def uptoBulkEntries {H : Type} : List (Lit × DataW H) → Nat
  | [] => 0
  | x :: r => uptoBulkEntry x + uptoBulkEntries r
def uptoBulkEntry {H : Type} : Lit × DataW H → Nat
  | (.string bytes, d) => bytes.length + uptoBulk d + 1
  | (_, d) => uptoBulk d + 1
 end
def uptoSmall : (H : Type) → List (DataW H) → Bool := fun _ ds => decide (uptoBulkAll ds ≤ 1048576)
def OpenSpec.upto (s : _root_.Go.ChangeSpec) : _root_.Go.OpenSpec := { _root_.Go.OpenSpec.ofChange s with cond := some uptoSmall }

/-- 'laws.FnExactPassOf', WHERE WHAT IT READS IS OF BULK AT MOST 1048576: true; the input reads as it did. -/
def fnExactPassOfUptoRow : OpenClaim := { program := "ytdgdlmpmoafkgaa", sum := "8c0b0b5837ffc9b7a62eb074da860bf5dc86077c40c121793018af82cdedba31", func := "loop.example/lettersthatarrive/laws.FnExactPassOf", spec := "fnExactPassOf", apart := false, narrowed := true }
def FnExactPassOfUptoSaid : Prop := fnExactPassOfUptoRow.holds Try.pinned (OpenSpec.upto fnExactPassOfSpec)

/-- 'laws.FnPassOf', WHERE WHAT IT READS IS OF BULK AT MOST 1048576: true; the input reads as it did. -/
def fnPassOfUptoRow : OpenClaim := { program := "ytdgdlmpmoafkgaa", sum := "8c0b0b5837ffc9b7a62eb074da860bf5dc86077c40c121793018af82cdedba31", func := "loop.example/lettersthatarrive/laws.FnPassOf", spec := "fnPassOf", apart := false, narrowed := true }
def FnPassOfUptoSaid : Prop := fnPassOfUptoRow.holds Try.pinned (OpenSpec.upto fnPassOfSpec)

/-- 'laws.FnPassesUndo', WHERE WHAT IT READS IS OF BULK AT MOST 1048576: true; the input reads as it did. -/
def fnPassesUndoUptoRow : OpenClaim := { program := "ytdgdlmpmoafkgaa", sum := "8c0b0b5837ffc9b7a62eb074da860bf5dc86077c40c121793018af82cdedba31", func := "loop.example/lettersthatarrive/laws.FnPassesUndo", spec := "fnPassesUndo", apart := false, narrowed := true }
def FnPassesUndoUptoSaid : Prop := fnPassesUndoUptoRow.holds Try.pinned (OpenSpec.upto fnPassesUndoSpec)

/-- 'laws.FnExactOneStack', WHERE WHAT IT READS IS OF BULK AT MOST 1048576: true; the input reads as it did. -/
def fnExactOneStackUptoRow : OpenClaim := { program := "ytdgdlmpmoafkgaa", sum := "8c0b0b5837ffc9b7a62eb074da860bf5dc86077c40c121793018af82cdedba31", func := "loop.example/lettersthatarrive/laws.FnExactOneStack", spec := "fnExactOneStack", apart := false, narrowed := true }
def FnExactOneStackUptoSaid : Prop := fnExactOneStackUptoRow.holds Try.pinned (OpenSpec.upto fnExactOneStackSpec)

/-- 'laws.FnOneStack', WHERE WHAT IT READS IS OF BULK AT MOST 1048576: true; the input reads as it did. -/
def fnOneStackUptoRow : OpenClaim := { program := "ytdgdlmpmoafkgaa", sum := "8c0b0b5837ffc9b7a62eb074da860bf5dc86077c40c121793018af82cdedba31", func := "loop.example/lettersthatarrive/laws.FnOneStack", spec := "fnOneStack", apart := false, narrowed := true }
def FnOneStackUptoSaid : Prop := fnOneStackUptoRow.holds Try.pinned (OpenSpec.upto fnOneStackSpec)

/-- 'laws.FnStackAgain', WHERE WHAT IT READS IS OF BULK AT MOST 1048576: true; the input reads as it did. -/
def fnStackAgainUptoRow : OpenClaim := { program := "ytdgdlmpmoafkgaa", sum := "8c0b0b5837ffc9b7a62eb074da860bf5dc86077c40c121793018af82cdedba31", func := "loop.example/lettersthatarrive/laws.FnStackAgain", spec := "fnStackAgain", apart := false, narrowed := true }
def FnStackAgainUptoSaid : Prop := fnStackAgainUptoRow.holds Try.pinned (OpenSpec.upto fnStackAgainSpec)

/-- 'laws.FnSortedIsOneRun', WHERE WHAT IT READS IS OF BULK AT MOST 1048576: true; the input reads as it did. -/
def fnSortedIsOneRunUptoRow : OpenClaim := { program := "ytdgdlmpmoafkgaa", sum := "8c0b0b5837ffc9b7a62eb074da860bf5dc86077c40c121793018af82cdedba31", func := "loop.example/lettersthatarrive/laws.FnSortedIsOneRun", spec := "fnSortedIsOneRun", apart := false, narrowed := true }
def FnSortedIsOneRunUptoSaid : Prop := fnSortedIsOneRunUptoRow.holds Try.pinned (OpenSpec.upto fnSortedIsOneRunSpec)

end Rows
end Go.Proofs.Ytdgdlmpmoafkgaa
