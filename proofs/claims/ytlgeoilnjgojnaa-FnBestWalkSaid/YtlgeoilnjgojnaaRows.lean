/-
  No cell of these rows narrows 'for every input' (looked for: loops, veiled, ifaces, maps, wideKeys, modest, calm, conditions, laid).
  DERIVED. THE GIVEN ROWS OF THIS SEAT. 9 by the template 'for every input the law returns true; each argument reads behind the call as it read before'; 0 by the template 'total and deterministic' (their statements: YtlgeoilnjgojnaaTotals.lean).
  GIVEN WITH THE SEED: the statements are not yours to turn. If you find one false, say at which input.
  Laid BY PROGRAM, IN A SANDBOX (cutbox-rows.mjs): the forced cells as the released guide's own fill.sh prints them over the translation 7211a0b3ef297a02… (all of the seat's roots in one cut). By AI agents, Wed Nov 11 2026. No macro, syntax, notation, axiom, sorry.
-/
import Derived.Test.YtlgeoilnjgojnaaChecked
import GoSem.Claim
import GoSem.ClaimJoined
import GoSem.ClaimMapViews
import Derived.JoinedTies
import Derived.KernelRfl
namespace Go.Proofs.Ytlgeoilnjgojnaa
/- THE CELL 'sum', in the pinned program and in every row, IS THE sha256 OF THE DUMP (.gsa) THAT YtlgeoilnjgojnaaProg.lean LOADS. Nothing in Lean hashes anything: it is a label: what it is worth is what the hold of that sum in a sandbox is worth. -/
noncomputable def Try.pinned : Pinned := { name := "ytlgeoilnjgojnaa", sum := "7211a0b3ef297a02031d898bf09a8afcd3ee2298a3da9c147bba8e128380bddc", checked := Try.checked }
namespace Rows
def none {H : Type} : Left H := { results := [], args := [] }

/-- 'laws.FnExactBestWalk': WHATEVER THE INPUT: true; the input reads as it did. -/
def fnExactBestWalkSpec : ChangeSpec := { name := "fnExactBestWalk", fn := fun _ => fun
  | [d1, d2] => { results := [.lit (.bool true)], args := [d1, d2] }
  | _ => none }
def fnExactBestWalkRow : OpenClaim := { program := "ytlgeoilnjgojnaa", sum := "7211a0b3ef297a02031d898bf09a8afcd3ee2298a3da9c147bba8e128380bddc", func := "loop.example/lettersthatarrive/laws.FnExactBestWalk", spec := "fnExactBestWalk", unfollowed := true, recurses := true, apart := false }
def FnExactBestWalkSaid : Prop := fnExactBestWalkRow.holds Try.pinned (OpenSpec.ofChange fnExactBestWalkSpec)

/-- ITS FALSE NEIGHBOUR: 'it returns false'. Refute it at one input. -/
def fnExactBestWalkWrong : ChangeSpec := { name := "fnExactBestWalk", fn := fun _ => fun
  | [d1, d2] => { results := [.lit (.bool false)], args := [d1, d2] }
  | _ => none }
def FnExactBestWalkWrongFalsely : Prop := fnExactBestWalkRow.holds Try.pinned (OpenSpec.ofChange fnExactBestWalkWrong)

/-- 'laws.FnBestWalk': WHATEVER THE INPUT: true; the input reads as it did. -/
def fnBestWalkSpec : ChangeSpec := { name := "fnBestWalk", fn := fun _ => fun
  | [d] => { results := [.lit (.bool true)], args := [d] }
  | _ => none }
def fnBestWalkRow : OpenClaim := { program := "ytlgeoilnjgojnaa", sum := "7211a0b3ef297a02031d898bf09a8afcd3ee2298a3da9c147bba8e128380bddc", func := "loop.example/lettersthatarrive/laws.FnBestWalk", spec := "fnBestWalk", unfollowed := true, recurses := true, apart := false }
def FnBestWalkSaid : Prop := fnBestWalkRow.holds Try.pinned (OpenSpec.ofChange fnBestWalkSpec)

/-- ITS FALSE NEIGHBOUR: 'it returns false'. Refute it at one input. -/
def fnBestWalkWrong : ChangeSpec := { name := "fnBestWalk", fn := fun _ => fun
  | [d] => { results := [.lit (.bool false)], args := [d] }
  | _ => none }
def FnBestWalkWrongFalsely : Prop := fnBestWalkRow.holds Try.pinned (OpenSpec.ofChange fnBestWalkWrong)

/-- 'laws.FnWalksGrow': WHATEVER THE INPUT: true; the input reads as it did. -/
def fnWalksGrowSpec : ChangeSpec := { name := "fnWalksGrow", fn := fun _ => fun
  | [d] => { results := [.lit (.bool true)], args := [d] }
  | _ => none }
def fnWalksGrowRow : OpenClaim := { program := "ytlgeoilnjgojnaa", sum := "7211a0b3ef297a02031d898bf09a8afcd3ee2298a3da9c147bba8e128380bddc", func := "loop.example/lettersthatarrive/laws.FnWalksGrow", spec := "fnWalksGrow", unfollowed := true, recurses := true, apart := false }
def FnWalksGrowSaid : Prop := fnWalksGrowRow.holds Try.pinned (OpenSpec.ofChange fnWalksGrowSpec)

/-- ITS FALSE NEIGHBOUR: 'it returns false'. Refute it at one input. -/
def fnWalksGrowWrong : ChangeSpec := { name := "fnWalksGrow", fn := fun _ => fun
  | [d] => { results := [.lit (.bool false)], args := [d] }
  | _ => none }
def FnWalksGrowWrongFalsely : Prop := fnWalksGrowRow.holds Try.pinned (OpenSpec.ofChange fnWalksGrowWrong)

/-- 'laws.FnRepairsOf': WHATEVER THE INPUT: true; the input reads as it did. -/
def fnRepairsOfSpec : ChangeSpec := { name := "fnRepairsOf", fn := fun _ => fun
  | [d] => { results := [.lit (.bool true)], args := [d] }
  | _ => none }
def fnRepairsOfRow : OpenClaim := { program := "ytlgeoilnjgojnaa", sum := "7211a0b3ef297a02031d898bf09a8afcd3ee2298a3da9c147bba8e128380bddc", func := "loop.example/lettersthatarrive/laws.FnRepairsOf", spec := "fnRepairsOf", inPlace := ["internal/bytealg.IndexByteString"], unfollowed := true, recurses := true, apart := false }
def FnRepairsOfSaid : Prop := fnRepairsOfRow.holds Try.pinned (OpenSpec.ofChange fnRepairsOfSpec)

/-- ITS FALSE NEIGHBOUR: 'it returns false'. Refute it at one input. -/
def fnRepairsOfWrong : ChangeSpec := { name := "fnRepairsOf", fn := fun _ => fun
  | [d] => { results := [.lit (.bool false)], args := [d] }
  | _ => none }
def FnRepairsOfWrongFalsely : Prop := fnRepairsOfRow.holds Try.pinned (OpenSpec.ofChange fnRepairsOfWrong)

/-- 'laws.FnRepairsComeBack': WHATEVER THE INPUT: true; the input reads as it did. -/
def fnRepairsComeBackSpec : ChangeSpec := { name := "fnRepairsComeBack", fn := fun _ => fun
  | [d] => { results := [.lit (.bool true)], args := [d] }
  | _ => none }
def fnRepairsComeBackRow : OpenClaim := { program := "ytlgeoilnjgojnaa", sum := "7211a0b3ef297a02031d898bf09a8afcd3ee2298a3da9c147bba8e128380bddc", func := "loop.example/lettersthatarrive/laws.FnRepairsComeBack", spec := "fnRepairsComeBack", inPlace := ["internal/bytealg.IndexByteString"], unfollowed := true, recurses := true, apart := false }
def FnRepairsComeBackSaid : Prop := fnRepairsComeBackRow.holds Try.pinned (OpenSpec.ofChange fnRepairsComeBackSpec)

/-- ITS FALSE NEIGHBOUR: 'it returns false'. Refute it at one input. -/
def fnRepairsComeBackWrong : ChangeSpec := { name := "fnRepairsComeBack", fn := fun _ => fun
  | [d] => { results := [.lit (.bool false)], args := [d] }
  | _ => none }
def FnRepairsComeBackWrongFalsely : Prop := fnRepairsComeBackRow.holds Try.pinned (OpenSpec.ofChange fnRepairsComeBackWrong)

/-- 'laws.FnExactRepairsOf': WHATEVER THE INPUT: true; the input reads as it did. -/
def fnExactRepairsOfSpec : ChangeSpec := { name := "fnExactRepairsOf", fn := fun _ => fun
  | [d] => { results := [.lit (.bool true)], args := [d] }
  | _ => none }
def fnExactRepairsOfRow : OpenClaim := { program := "ytlgeoilnjgojnaa", sum := "7211a0b3ef297a02031d898bf09a8afcd3ee2298a3da9c147bba8e128380bddc", func := "loop.example/lettersthatarrive/laws.FnExactRepairsOf", spec := "fnExactRepairsOf", inPlace := ["internal/bytealg.IndexByteString"], unfollowed := true, recurses := true, apart := false }
def FnExactRepairsOfSaid : Prop := fnExactRepairsOfRow.holds Try.pinned (OpenSpec.ofChange fnExactRepairsOfSpec)

/-- ITS FALSE NEIGHBOUR: 'it returns false'. Refute it at one input. -/
def fnExactRepairsOfWrong : ChangeSpec := { name := "fnExactRepairsOf", fn := fun _ => fun
  | [d] => { results := [.lit (.bool false)], args := [d] }
  | _ => none }
def FnExactRepairsOfWrongFalsely : Prop := fnExactRepairsOfRow.holds Try.pinned (OpenSpec.ofChange fnExactRepairsOfWrong)

/-- 'laws.FnFewestPasses': WHATEVER THE INPUT: true; the input reads as it did. -/
def fnFewestPassesSpec : ChangeSpec := { name := "fnFewestPasses", fn := fun _ => fun
  | [d] => { results := [.lit (.bool true)], args := [d] }
  | _ => none }
def fnFewestPassesRow : OpenClaim := { program := "ytlgeoilnjgojnaa", sum := "7211a0b3ef297a02031d898bf09a8afcd3ee2298a3da9c147bba8e128380bddc", func := "loop.example/lettersthatarrive/laws.FnFewestPasses", spec := "fnFewestPasses", unfollowed := true, recurses := true, apart := false }
def FnFewestPassesSaid : Prop := fnFewestPassesRow.holds Try.pinned (OpenSpec.ofChange fnFewestPassesSpec)

/-- ITS FALSE NEIGHBOUR: 'it returns false'. Refute it at one input. -/
def fnFewestPassesWrong : ChangeSpec := { name := "fnFewestPasses", fn := fun _ => fun
  | [d] => { results := [.lit (.bool false)], args := [d] }
  | _ => none }
def FnFewestPassesWrongFalsely : Prop := fnFewestPassesRow.holds Try.pinned (OpenSpec.ofChange fnFewestPassesWrong)

/-- 'laws.FnPassesTried': WHATEVER THE INPUT: true; the input reads as it did. -/
def fnPassesTriedSpec : ChangeSpec := { name := "fnPassesTried", fn := fun _ => fun
  | [d] => { results := [.lit (.bool true)], args := [d] }
  | _ => none }
def fnPassesTriedRow : OpenClaim := { program := "ytlgeoilnjgojnaa", sum := "7211a0b3ef297a02031d898bf09a8afcd3ee2298a3da9c147bba8e128380bddc", func := "loop.example/lettersthatarrive/laws.FnPassesTried", spec := "fnPassesTried", unfollowed := true, recurses := true, apart := false }
def FnPassesTriedSaid : Prop := fnPassesTriedRow.holds Try.pinned (OpenSpec.ofChange fnPassesTriedSpec)

/-- ITS FALSE NEIGHBOUR: 'it returns false'. Refute it at one input. -/
def fnPassesTriedWrong : ChangeSpec := { name := "fnPassesTried", fn := fun _ => fun
  | [d] => { results := [.lit (.bool false)], args := [d] }
  | _ => none }
def FnPassesTriedWrongFalsely : Prop := fnPassesTriedRow.holds Try.pinned (OpenSpec.ofChange fnPassesTriedWrong)

/-- 'laws.FnExactPassesTried': WHATEVER THE INPUT: true; the input reads as it did. -/
def fnExactPassesTriedSpec : ChangeSpec := { name := "fnExactPassesTried", fn := fun _ => fun
  | [d1, d2] => { results := [.lit (.bool true)], args := [d1, d2] }
  | _ => none }
def fnExactPassesTriedRow : OpenClaim := { program := "ytlgeoilnjgojnaa", sum := "7211a0b3ef297a02031d898bf09a8afcd3ee2298a3da9c147bba8e128380bddc", func := "loop.example/lettersthatarrive/laws.FnExactPassesTried", spec := "fnExactPassesTried", unfollowed := true, recurses := true, apart := false }
def FnExactPassesTriedSaid : Prop := fnExactPassesTriedRow.holds Try.pinned (OpenSpec.ofChange fnExactPassesTriedSpec)

/-- ITS FALSE NEIGHBOUR: 'it returns false'. Refute it at one input. -/
def fnExactPassesTriedWrong : ChangeSpec := { name := "fnExactPassesTried", fn := fun _ => fun
  | [d1, d2] => { results := [.lit (.bool false)], args := [d1, d2] }
  | _ => none }
def FnExactPassesTriedWrongFalsely : Prop := fnExactPassesTriedRow.holds Try.pinned (OpenSpec.ofChange fnExactPassesTriedWrong)

/- THE SECOND FORM. 'bulk': how many values and letters a reading holds, each counted each time it is reached (what is shared counts as often as it is met; a slice's spare places count too). A statement '..UptoSaid' is the law's where the arguments, and the package variables that the reading takes, are together of bulk at most 1048576: NARROWER than '..Said'. Prove '..Said' where nothing that the law and all that it calls make is longer than what came in: it says more and counts as full. Else prove '..UptoSaid'. A law counts once. -/
mutual
def uptoBulk {H : Type} : DataW H → Nat
  | .lit (.string bytes) => bytes.length + 1
  | .lit _ => 1
  | .nil => 1
  | .ptr d => uptoBulk d + 1
  | .slice elems spare => uptoBulkAll elems + uptoBulkAll spare + 1
  | .agg parts => uptoBulkAll parts + 1
  | .iface _ d => uptoBulk d + 1
  | .map entries => uptoBulkEntries entries + 1
  | .held _ => 1
def uptoBulkAll {H : Type} : List (DataW H) → Nat
  | [] => 0
  | d :: r => uptoBulk d + uptoBulkAll r
def uptoBulkEntries {H : Type} : List (Lit × DataW H) → Nat
  | [] => 0
  | x :: r => uptoBulkEntry x + uptoBulkEntries r
def uptoBulkEntry {H : Type} : Lit × DataW H → Nat
  | (.string bytes, d) => bytes.length + uptoBulk d + 1
  | (_, d) => uptoBulk d + 1
 end
def uptoSmall : (H : Type) → List (DataW H) → Bool := fun _ ds => decide (uptoBulkAll ds ≤ 1048576)
def OpenSpec.upto (s : _root_.Go.ChangeSpec) : _root_.Go.OpenSpec := { _root_.Go.OpenSpec.ofChange s with cond := some uptoSmall }

/-- 'laws.FnExactBestWalk', WHERE WHAT IT READS IS OF BULK AT MOST 1048576: true; the input reads as it did. -/
def fnExactBestWalkUptoRow : OpenClaim := { program := "ytlgeoilnjgojnaa", sum := "7211a0b3ef297a02031d898bf09a8afcd3ee2298a3da9c147bba8e128380bddc", func := "loop.example/lettersthatarrive/laws.FnExactBestWalk", spec := "fnExactBestWalk", unfollowed := true, recurses := true, apart := false, narrowed := true }
def FnExactBestWalkUptoSaid : Prop := fnExactBestWalkUptoRow.holds Try.pinned (OpenSpec.upto fnExactBestWalkSpec)

/-- 'laws.FnBestWalk', WHERE WHAT IT READS IS OF BULK AT MOST 1048576: true; the input reads as it did. -/
def fnBestWalkUptoRow : OpenClaim := { program := "ytlgeoilnjgojnaa", sum := "7211a0b3ef297a02031d898bf09a8afcd3ee2298a3da9c147bba8e128380bddc", func := "loop.example/lettersthatarrive/laws.FnBestWalk", spec := "fnBestWalk", unfollowed := true, recurses := true, apart := false, narrowed := true }
def FnBestWalkUptoSaid : Prop := fnBestWalkUptoRow.holds Try.pinned (OpenSpec.upto fnBestWalkSpec)

/-- 'laws.FnWalksGrow', WHERE WHAT IT READS IS OF BULK AT MOST 1048576: true; the input reads as it did. -/
def fnWalksGrowUptoRow : OpenClaim := { program := "ytlgeoilnjgojnaa", sum := "7211a0b3ef297a02031d898bf09a8afcd3ee2298a3da9c147bba8e128380bddc", func := "loop.example/lettersthatarrive/laws.FnWalksGrow", spec := "fnWalksGrow", unfollowed := true, recurses := true, apart := false, narrowed := true }
def FnWalksGrowUptoSaid : Prop := fnWalksGrowUptoRow.holds Try.pinned (OpenSpec.upto fnWalksGrowSpec)

/-- 'laws.FnRepairsOf', WHERE WHAT IT READS IS OF BULK AT MOST 1048576: true; the input reads as it did. -/
def fnRepairsOfUptoRow : OpenClaim := { program := "ytlgeoilnjgojnaa", sum := "7211a0b3ef297a02031d898bf09a8afcd3ee2298a3da9c147bba8e128380bddc", func := "loop.example/lettersthatarrive/laws.FnRepairsOf", spec := "fnRepairsOf", inPlace := ["internal/bytealg.IndexByteString"], unfollowed := true, recurses := true, apart := false, narrowed := true }
def FnRepairsOfUptoSaid : Prop := fnRepairsOfUptoRow.holds Try.pinned (OpenSpec.upto fnRepairsOfSpec)

/-- 'laws.FnRepairsComeBack', WHERE WHAT IT READS IS OF BULK AT MOST 1048576: true; the input reads as it did. -/
def fnRepairsComeBackUptoRow : OpenClaim := { program := "ytlgeoilnjgojnaa", sum := "7211a0b3ef297a02031d898bf09a8afcd3ee2298a3da9c147bba8e128380bddc", func := "loop.example/lettersthatarrive/laws.FnRepairsComeBack", spec := "fnRepairsComeBack", inPlace := ["internal/bytealg.IndexByteString"], unfollowed := true, recurses := true, apart := false, narrowed := true }
def FnRepairsComeBackUptoSaid : Prop := fnRepairsComeBackUptoRow.holds Try.pinned (OpenSpec.upto fnRepairsComeBackSpec)

/-- 'laws.FnExactRepairsOf', WHERE WHAT IT READS IS OF BULK AT MOST 1048576: true; the input reads as it did. -/
def fnExactRepairsOfUptoRow : OpenClaim := { program := "ytlgeoilnjgojnaa", sum := "7211a0b3ef297a02031d898bf09a8afcd3ee2298a3da9c147bba8e128380bddc", func := "loop.example/lettersthatarrive/laws.FnExactRepairsOf", spec := "fnExactRepairsOf", inPlace := ["internal/bytealg.IndexByteString"], unfollowed := true, recurses := true, apart := false, narrowed := true }
def FnExactRepairsOfUptoSaid : Prop := fnExactRepairsOfUptoRow.holds Try.pinned (OpenSpec.upto fnExactRepairsOfSpec)

/-- 'laws.FnFewestPasses', WHERE WHAT IT READS IS OF BULK AT MOST 1048576: true; the input reads as it did. -/
def fnFewestPassesUptoRow : OpenClaim := { program := "ytlgeoilnjgojnaa", sum := "7211a0b3ef297a02031d898bf09a8afcd3ee2298a3da9c147bba8e128380bddc", func := "loop.example/lettersthatarrive/laws.FnFewestPasses", spec := "fnFewestPasses", unfollowed := true, recurses := true, apart := false, narrowed := true }
def FnFewestPassesUptoSaid : Prop := fnFewestPassesUptoRow.holds Try.pinned (OpenSpec.upto fnFewestPassesSpec)

/-- 'laws.FnPassesTried', WHERE WHAT IT READS IS OF BULK AT MOST 1048576: true; the input reads as it did. -/
def fnPassesTriedUptoRow : OpenClaim := { program := "ytlgeoilnjgojnaa", sum := "7211a0b3ef297a02031d898bf09a8afcd3ee2298a3da9c147bba8e128380bddc", func := "loop.example/lettersthatarrive/laws.FnPassesTried", spec := "fnPassesTried", unfollowed := true, recurses := true, apart := false, narrowed := true }
def FnPassesTriedUptoSaid : Prop := fnPassesTriedUptoRow.holds Try.pinned (OpenSpec.upto fnPassesTriedSpec)

/-- 'laws.FnExactPassesTried', WHERE WHAT IT READS IS OF BULK AT MOST 1048576: true; the input reads as it did. -/
def fnExactPassesTriedUptoRow : OpenClaim := { program := "ytlgeoilnjgojnaa", sum := "7211a0b3ef297a02031d898bf09a8afcd3ee2298a3da9c147bba8e128380bddc", func := "loop.example/lettersthatarrive/laws.FnExactPassesTried", spec := "fnExactPassesTried", unfollowed := true, recurses := true, apart := false, narrowed := true }
def FnExactPassesTriedUptoSaid : Prop := fnExactPassesTriedUptoRow.holds Try.pinned (OpenSpec.upto fnExactPassesTriedSpec)

end Rows
end Go.Proofs.Ytlgeoilnjgojnaa
