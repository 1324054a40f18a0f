/-
  No cell of these rows narrows 'for every input' (looked for: loops, veiled, ifaces, maps, wideKeys, modest, calm, conditions, laid).
  DERIVED. THE GIVEN ROWS OF THIS SEAT. 10 by the template 'for every input the law returns true; each argument reads behind the call as it read before'; 0 by the template 'total and deterministic' (their statements: YtdacjoeabndcjabTotals.lean).
  GIVEN WITH THE SEED: the statements are not yours to turn. If you find one false, say at which input.
  Laid BY PROGRAM, IN A SANDBOX (cutbox-rows.mjs): the forced cells as the released guide's own fill.sh prints them over the translation e7cc4bf1855a6fb6… (all of the seat's roots in one cut). By AI agents, Wed Nov 11 2026. No macro, syntax, notation, axiom, sorry.
-/
import Derived.Test.YtdacjoeabndcjabChecked
import GoSem.Claim
import GoSem.ClaimJoined
import GoSem.ClaimMapViews
import Derived.JoinedTies
import Derived.KernelRfl
namespace Go.Proofs.Ytdacjoeabndcjab
/- THE CELL 'sum', in the pinned program and in every row, IS THE sha256 OF THE DUMP (.gsa) THAT YtdacjoeabndcjabProg.lean LOADS. Nothing in Lean hashes anything: it is a label: what it is worth is what the hold of that sum in a sandbox is worth. -/
noncomputable def Try.pinned : Pinned := { name := "ytdacjoeabndcjab", sum := "e7cc4bf1855a6fb69e1e80aa5b66b15d7799b27fb91d8c987b450d9c309e6a57", checked := Try.checked }
namespace Rows
def none {H : Type} : Left H := { results := [], args := [] }

/-- 'laws.FnExactValidRow': WHATEVER THE INPUT: true; the input reads as it did. -/
def fnExactValidRowSpec : ChangeSpec := { name := "fnExactValidRow", fn := fun _ => fun
  | [d] => { results := [.lit (.bool true)], args := [d] }
  | _ => none }
def fnExactValidRowRow : OpenClaim := { program := "ytdacjoeabndcjab", sum := "e7cc4bf1855a6fb69e1e80aa5b66b15d7799b27fb91d8c987b450d9c309e6a57", func := "loop.example/lettersthatarrive/laws.FnExactValidRow", spec := "fnExactValidRow", apart := false }
def FnExactValidRowSaid : Prop := fnExactValidRowRow.holds Try.pinned (OpenSpec.ofChange fnExactValidRowSpec)

/-- ITS FALSE NEIGHBOUR: 'it returns false'. Refute it at one input. -/
def fnExactValidRowWrong : ChangeSpec := { name := "fnExactValidRow", fn := fun _ => fun
  | [d] => { results := [.lit (.bool false)], args := [d] }
  | _ => none }
def FnExactValidRowWrongFalsely : Prop := fnExactValidRowRow.holds Try.pinned (OpenSpec.ofChange fnExactValidRowWrong)

/-- 'laws.FnExactRunsOf': WHATEVER THE INPUT: true; the input reads as it did. -/
def fnExactRunsOfSpec : ChangeSpec := { name := "fnExactRunsOf", fn := fun _ => fun
  | [d] => { results := [.lit (.bool true)], args := [d] }
  | _ => none }
def fnExactRunsOfRow : OpenClaim := { program := "ytdacjoeabndcjab", sum := "e7cc4bf1855a6fb69e1e80aa5b66b15d7799b27fb91d8c987b450d9c309e6a57", func := "loop.example/lettersthatarrive/laws.FnExactRunsOf", spec := "fnExactRunsOf", apart := false }
def FnExactRunsOfSaid : Prop := fnExactRunsOfRow.holds Try.pinned (OpenSpec.ofChange fnExactRunsOfSpec)

/-- ITS FALSE NEIGHBOUR: 'it returns false'. Refute it at one input. -/
def fnExactRunsOfWrong : ChangeSpec := { name := "fnExactRunsOf", fn := fun _ => fun
  | [d] => { results := [.lit (.bool false)], args := [d] }
  | _ => none }
def FnExactRunsOfWrongFalsely : Prop := fnExactRunsOfRow.holds Try.pinned (OpenSpec.ofChange fnExactRunsOfWrong)

/-- 'laws.FnRunsOf': WHATEVER THE INPUT: true; the input reads as it did. -/
def fnRunsOfSpec : ChangeSpec := { name := "fnRunsOf", fn := fun _ => fun
  | [d] => { results := [.lit (.bool true)], args := [d] }
  | _ => none }
def fnRunsOfRow : OpenClaim := { program := "ytdacjoeabndcjab", sum := "e7cc4bf1855a6fb69e1e80aa5b66b15d7799b27fb91d8c987b450d9c309e6a57", func := "loop.example/lettersthatarrive/laws.FnRunsOf", spec := "fnRunsOf", apart := false }
def FnRunsOfSaid : Prop := fnRunsOfRow.holds Try.pinned (OpenSpec.ofChange fnRunsOfSpec)

/-- ITS FALSE NEIGHBOUR: 'it returns false'. Refute it at one input. -/
def fnRunsOfWrong : ChangeSpec := { name := "fnRunsOf", fn := fun _ => fun
  | [d] => { results := [.lit (.bool false)], args := [d] }
  | _ => none }
def FnRunsOfWrongFalsely : Prop := fnRunsOfRow.holds Try.pinned (OpenSpec.ofChange fnRunsOfWrong)

/-- 'laws.FnExactPassOf': WHATEVER THE INPUT: true; the input reads as it did. -/
def fnExactPassOfSpec : ChangeSpec := { name := "fnExactPassOf", fn := fun _ => fun
  | [d1, d2, d3] => { results := [.lit (.bool true)], args := [d1, d2, d3] }
  | _ => none }
def fnExactPassOfRow : OpenClaim := { program := "ytdacjoeabndcjab", sum := "e7cc4bf1855a6fb69e1e80aa5b66b15d7799b27fb91d8c987b450d9c309e6a57", func := "loop.example/lettersthatarrive/laws.FnExactPassOf", spec := "fnExactPassOf", apart := false }
def FnExactPassOfSaid : Prop := fnExactPassOfRow.holds Try.pinned (OpenSpec.ofChange fnExactPassOfSpec)

/-- ITS FALSE NEIGHBOUR: 'it returns false'. Refute it at one input. -/
def fnExactPassOfWrong : ChangeSpec := { name := "fnExactPassOf", fn := fun _ => fun
  | [d1, d2, d3] => { results := [.lit (.bool false)], args := [d1, d2, d3] }
  | _ => none }
def FnExactPassOfWrongFalsely : Prop := fnExactPassOfRow.holds Try.pinned (OpenSpec.ofChange fnExactPassOfWrong)

/-- 'laws.FnExactFewestPasses': WHATEVER THE INPUT: true; the input reads as it did. -/
def fnExactFewestPassesSpec : ChangeSpec := { name := "fnExactFewestPasses", fn := fun _ => fun
  | [d1, d2] => { results := [.lit (.bool true)], args := [d1, d2] }
  | _ => none }
def fnExactFewestPassesRow : OpenClaim := { program := "ytdacjoeabndcjab", sum := "e7cc4bf1855a6fb69e1e80aa5b66b15d7799b27fb91d8c987b450d9c309e6a57", func := "loop.example/lettersthatarrive/laws.FnExactFewestPasses", spec := "fnExactFewestPasses", apart := false }
def FnExactFewestPassesSaid : Prop := fnExactFewestPassesRow.holds Try.pinned (OpenSpec.ofChange fnExactFewestPassesSpec)

/-- ITS FALSE NEIGHBOUR: 'it returns false'. Refute it at one input. -/
def fnExactFewestPassesWrong : ChangeSpec := { name := "fnExactFewestPasses", fn := fun _ => fun
  | [d1, d2] => { results := [.lit (.bool false)], args := [d1, d2] }
  | _ => none }
def FnExactFewestPassesWrongFalsely : Prop := fnExactFewestPassesRow.holds Try.pinned (OpenSpec.ofChange fnExactFewestPassesWrong)

/-- 'laws.FnFewestPasses': WHATEVER THE INPUT: true; the input reads as it did. -/
def fnFewestPassesSpec : ChangeSpec := { name := "fnFewestPasses", fn := fun _ => fun
  | [d] => { results := [.lit (.bool true)], args := [d] }
  | _ => none }
def fnFewestPassesRow : OpenClaim := { program := "ytdacjoeabndcjab", sum := "e7cc4bf1855a6fb69e1e80aa5b66b15d7799b27fb91d8c987b450d9c309e6a57", func := "loop.example/lettersthatarrive/laws.FnFewestPasses", spec := "fnFewestPasses", unfollowed := true, recurses := true, apart := false }
def FnFewestPassesSaid : Prop := fnFewestPassesRow.holds Try.pinned (OpenSpec.ofChange fnFewestPassesSpec)

/-- ITS FALSE NEIGHBOUR: 'it returns false'. Refute it at one input. -/
def fnFewestPassesWrong : ChangeSpec := { name := "fnFewestPasses", fn := fun _ => fun
  | [d] => { results := [.lit (.bool false)], args := [d] }
  | _ => none }
def FnFewestPassesWrongFalsely : Prop := fnFewestPassesRow.holds Try.pinned (OpenSpec.ofChange fnFewestPassesWrong)

/-- 'laws.FnExactSortPasses': WHATEVER THE INPUT: true; the input reads as it did. -/
def fnExactSortPassesSpec : ChangeSpec := { name := "fnExactSortPasses", fn := fun _ => fun
  | [d1, d2] => { results := [.lit (.bool true)], args := [d1, d2] }
  | _ => none }
def fnExactSortPassesRow : OpenClaim := { program := "ytdacjoeabndcjab", sum := "e7cc4bf1855a6fb69e1e80aa5b66b15d7799b27fb91d8c987b450d9c309e6a57", func := "loop.example/lettersthatarrive/laws.FnExactSortPasses", spec := "fnExactSortPasses", apart := false }
def FnExactSortPassesSaid : Prop := fnExactSortPassesRow.holds Try.pinned (OpenSpec.ofChange fnExactSortPassesSpec)

/-- ITS FALSE NEIGHBOUR: 'it returns false'. Refute it at one input. -/
def fnExactSortPassesWrong : ChangeSpec := { name := "fnExactSortPasses", fn := fun _ => fun
  | [d1, d2] => { results := [.lit (.bool false)], args := [d1, d2] }
  | _ => none }
def FnExactSortPassesWrongFalsely : Prop := fnExactSortPassesRow.holds Try.pinned (OpenSpec.ofChange fnExactSortPassesWrong)

/-- 'laws.FnSortPasses': WHATEVER THE INPUT: true; the input reads as it did. -/
def fnSortPassesSpec : ChangeSpec := { name := "fnSortPasses", fn := fun _ => fun
  | [d] => { results := [.lit (.bool true)], args := [d] }
  | _ => none }
def fnSortPassesRow : OpenClaim := { program := "ytdacjoeabndcjab", sum := "e7cc4bf1855a6fb69e1e80aa5b66b15d7799b27fb91d8c987b450d9c309e6a57", func := "loop.example/lettersthatarrive/laws.FnSortPasses", spec := "fnSortPasses", apart := false }
def FnSortPassesSaid : Prop := fnSortPassesRow.holds Try.pinned (OpenSpec.ofChange fnSortPassesSpec)

/-- ITS FALSE NEIGHBOUR: 'it returns false'. Refute it at one input. -/
def fnSortPassesWrong : ChangeSpec := { name := "fnSortPasses", fn := fun _ => fun
  | [d] => { results := [.lit (.bool false)], args := [d] }
  | _ => none }
def FnSortPassesWrongFalsely : Prop := fnSortPassesRow.holds Try.pinned (OpenSpec.ofChange fnSortPassesWrong)

/-- 'laws.FnExactPassesTried': WHATEVER THE INPUT: true; the input reads as it did. -/
def fnExactPassesTriedSpec : ChangeSpec := { name := "fnExactPassesTried", fn := fun _ => fun
  | [d1, d2] => { results := [.lit (.bool true)], args := [d1, d2] }
  | _ => none }
def fnExactPassesTriedRow : OpenClaim := { program := "ytdacjoeabndcjab", sum := "e7cc4bf1855a6fb69e1e80aa5b66b15d7799b27fb91d8c987b450d9c309e6a57", func := "loop.example/lettersthatarrive/laws.FnExactPassesTried", spec := "fnExactPassesTried", unfollowed := true, recurses := true, apart := false }
def FnExactPassesTriedSaid : Prop := fnExactPassesTriedRow.holds Try.pinned (OpenSpec.ofChange fnExactPassesTriedSpec)

/-- ITS FALSE NEIGHBOUR: 'it returns false'. Refute it at one input. -/
def fnExactPassesTriedWrong : ChangeSpec := { name := "fnExactPassesTried", fn := fun _ => fun
  | [d1, d2] => { results := [.lit (.bool false)], args := [d1, d2] }
  | _ => none }
def FnExactPassesTriedWrongFalsely : Prop := fnExactPassesTriedRow.holds Try.pinned (OpenSpec.ofChange fnExactPassesTriedWrong)

/-- 'laws.FnPassesTried': WHATEVER THE INPUT: true; the input reads as it did. -/
def fnPassesTriedSpec : ChangeSpec := { name := "fnPassesTried", fn := fun _ => fun
  | [d] => { results := [.lit (.bool true)], args := [d] }
  | _ => none }
def fnPassesTriedRow : OpenClaim := { program := "ytdacjoeabndcjab", sum := "e7cc4bf1855a6fb69e1e80aa5b66b15d7799b27fb91d8c987b450d9c309e6a57", func := "loop.example/lettersthatarrive/laws.FnPassesTried", spec := "fnPassesTried", unfollowed := true, recurses := true, apart := false }
def FnPassesTriedSaid : Prop := fnPassesTriedRow.holds Try.pinned (OpenSpec.ofChange fnPassesTriedSpec)

/-- ITS FALSE NEIGHBOUR: 'it returns false'. Refute it at one input. -/
def fnPassesTriedWrong : ChangeSpec := { name := "fnPassesTried", fn := fun _ => fun
  | [d] => { results := [.lit (.bool false)], args := [d] }
  | _ => none }
def FnPassesTriedWrongFalsely : Prop := fnPassesTriedRow.holds Try.pinned (OpenSpec.ofChange fnPassesTriedWrong)

/- THE SECOND FORM. 'bulk': how many values and letters a reading holds, each counted each time it is reached (what is shared counts as often as it is met; a slice's spare places count too). A statement '..UptoSaid' is the law's where the arguments, and the package variables that the reading takes, are together of bulk at most 1048576: NARROWER than '..Said'. Prove '..Said' where nothing that the law and all that it calls make is longer than what came in: it says more and counts as full. Else prove '..UptoSaid'. A law counts once. -/
mutual
def uptoBulk {H : Type} : DataW H → Nat
  | .lit (.string bytes) => bytes.length + 1
  | .lit _ => 1
  | .nil => 1
  | .ptr d => uptoBulk d + 1
  | .slice elems spare => uptoBulkAll elems + uptoBulkAll spare + 1
  | .agg parts => uptoBulkAll parts + 1
  | .iface _ d => uptoBulk d + 1
  | .map entries => uptoBulkEntries entries + 1
  | .held _ => 1
def uptoBulkAll {H : Type} : List (DataW H) → Nat
  | [] => 0
  | d :: r => uptoBulk d + uptoBulkAll r
def uptoBulkEntries {H : Type} : List (Lit × DataW H) → Nat
  | [] => 0
  | x :: r => uptoBulkEntry x + uptoBulkEntries r
def uptoBulkEntry {H : Type} : Lit × DataW H → Nat
  | (.string bytes, d) => bytes.length + uptoBulk d + 1
  | (_, d) => uptoBulk d + 1
 end
def uptoSmall : (H : Type) → List (DataW H) → Bool := fun _ ds => decide (uptoBulkAll ds ≤ 1048576)
def OpenSpec.upto (s : _root_.Go.ChangeSpec) : _root_.Go.OpenSpec := { _root_.Go.OpenSpec.ofChange s with cond := some uptoSmall }

/-- 'laws.FnExactValidRow', WHERE WHAT IT READS IS OF BULK AT MOST 1048576: true; the input reads as it did. -/
def fnExactValidRowUptoRow : OpenClaim := { program := "ytdacjoeabndcjab", sum := "e7cc4bf1855a6fb69e1e80aa5b66b15d7799b27fb91d8c987b450d9c309e6a57", func := "loop.example/lettersthatarrive/laws.FnExactValidRow", spec := "fnExactValidRow", apart := false, narrowed := true }
def FnExactValidRowUptoSaid : Prop := fnExactValidRowUptoRow.holds Try.pinned (OpenSpec.upto fnExactValidRowSpec)

/-- 'laws.FnExactRunsOf', WHERE WHAT IT READS IS OF BULK AT MOST 1048576: true; the input reads as it did. -/
def fnExactRunsOfUptoRow : OpenClaim := { program := "ytdacjoeabndcjab", sum := "e7cc4bf1855a6fb69e1e80aa5b66b15d7799b27fb91d8c987b450d9c309e6a57", func := "loop.example/lettersthatarrive/laws.FnExactRunsOf", spec := "fnExactRunsOf", apart := false, narrowed := true }
def FnExactRunsOfUptoSaid : Prop := fnExactRunsOfUptoRow.holds Try.pinned (OpenSpec.upto fnExactRunsOfSpec)

/-- 'laws.FnRunsOf', WHERE WHAT IT READS IS OF BULK AT MOST 1048576: true; the input reads as it did. -/
def fnRunsOfUptoRow : OpenClaim := { program := "ytdacjoeabndcjab", sum := "e7cc4bf1855a6fb69e1e80aa5b66b15d7799b27fb91d8c987b450d9c309e6a57", func := "loop.example/lettersthatarrive/laws.FnRunsOf", spec := "fnRunsOf", apart := false, narrowed := true }
def FnRunsOfUptoSaid : Prop := fnRunsOfUptoRow.holds Try.pinned (OpenSpec.upto fnRunsOfSpec)

/-- 'laws.FnExactPassOf', WHERE WHAT IT READS IS OF BULK AT MOST 1048576: true; the input reads as it did. -/
def fnExactPassOfUptoRow : OpenClaim := { program := "ytdacjoeabndcjab", sum := "e7cc4bf1855a6fb69e1e80aa5b66b15d7799b27fb91d8c987b450d9c309e6a57", func := "loop.example/lettersthatarrive/laws.FnExactPassOf", spec := "fnExactPassOf", apart := false, narrowed := true }
def FnExactPassOfUptoSaid : Prop := fnExactPassOfUptoRow.holds Try.pinned (OpenSpec.upto fnExactPassOfSpec)

/-- 'laws.FnExactFewestPasses', WHERE WHAT IT READS IS OF BULK AT MOST 1048576: true; the input reads as it did. -/
def fnExactFewestPassesUptoRow : OpenClaim := { program := "ytdacjoeabndcjab", sum := "e7cc4bf1855a6fb69e1e80aa5b66b15d7799b27fb91d8c987b450d9c309e6a57", func := "loop.example/lettersthatarrive/laws.FnExactFewestPasses", spec := "fnExactFewestPasses", apart := false, narrowed := true }
def FnExactFewestPassesUptoSaid : Prop := fnExactFewestPassesUptoRow.holds Try.pinned (OpenSpec.upto fnExactFewestPassesSpec)

/-- 'laws.FnFewestPasses', WHERE WHAT IT READS IS OF BULK AT MOST 1048576: true; the input reads as it did. -/
def fnFewestPassesUptoRow : OpenClaim := { program := "ytdacjoeabndcjab", sum := "e7cc4bf1855a6fb69e1e80aa5b66b15d7799b27fb91d8c987b450d9c309e6a57", func := "loop.example/lettersthatarrive/laws.FnFewestPasses", spec := "fnFewestPasses", unfollowed := true, recurses := true, apart := false, narrowed := true }
def FnFewestPassesUptoSaid : Prop := fnFewestPassesUptoRow.holds Try.pinned (OpenSpec.upto fnFewestPassesSpec)

/-- 'laws.FnExactSortPasses', WHERE WHAT IT READS IS OF BULK AT MOST 1048576: true; the input reads as it did. -/
def fnExactSortPassesUptoRow : OpenClaim := { program := "ytdacjoeabndcjab", sum := "e7cc4bf1855a6fb69e1e80aa5b66b15d7799b27fb91d8c987b450d9c309e6a57", func := "loop.example/lettersthatarrive/laws.FnExactSortPasses", spec := "fnExactSortPasses", apart := false, narrowed := true }
def FnExactSortPassesUptoSaid : Prop := fnExactSortPassesUptoRow.holds Try.pinned (OpenSpec.upto fnExactSortPassesSpec)

/-- 'laws.FnSortPasses', WHERE WHAT IT READS IS OF BULK AT MOST 1048576: true; the input reads as it did. -/
def fnSortPassesUptoRow : OpenClaim := { program := "ytdacjoeabndcjab", sum := "e7cc4bf1855a6fb69e1e80aa5b66b15d7799b27fb91d8c987b450d9c309e6a57", func := "loop.example/lettersthatarrive/laws.FnSortPasses", spec := "fnSortPasses", apart := false, narrowed := true }
def FnSortPassesUptoSaid : Prop := fnSortPassesUptoRow.holds Try.pinned (OpenSpec.upto fnSortPassesSpec)

/-- 'laws.FnExactPassesTried', WHERE WHAT IT READS IS OF BULK AT MOST 1048576: true; the input reads as it did. -/
def fnExactPassesTriedUptoRow : OpenClaim := { program := "ytdacjoeabndcjab", sum := "e7cc4bf1855a6fb69e1e80aa5b66b15d7799b27fb91d8c987b450d9c309e6a57", func := "loop.example/lettersthatarrive/laws.FnExactPassesTried", spec := "fnExactPassesTried", unfollowed := true, recurses := true, apart := false, narrowed := true }
def FnExactPassesTriedUptoSaid : Prop := fnExactPassesTriedUptoRow.holds Try.pinned (OpenSpec.upto fnExactPassesTriedSpec)

/-- 'laws.FnPassesTried', WHERE WHAT IT READS IS OF BULK AT MOST 1048576: true; the input reads as it did. -/
def fnPassesTriedUptoRow : OpenClaim := { program := "ytdacjoeabndcjab", sum := "e7cc4bf1855a6fb69e1e80aa5b66b15d7799b27fb91d8c987b450d9c309e6a57", func := "loop.example/lettersthatarrive/laws.FnPassesTried", spec := "fnPassesTried", unfollowed := true, recurses := true, apart := false, narrowed := true }
def FnPassesTriedUptoSaid : Prop := fnPassesTriedUptoRow.holds Try.pinned (OpenSpec.upto fnPassesTriedSpec)

end Rows
end Go.Proofs.Ytdacjoeabndcjab
