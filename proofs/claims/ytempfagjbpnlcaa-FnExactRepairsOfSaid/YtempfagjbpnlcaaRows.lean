/-
  No cell of these rows narrows 'for every input' (looked for: loops, veiled, ifaces, maps, wideKeys, modest, calm, conditions, laid).
  DERIVED. THE GIVEN ROWS OF THIS SEAT. 6 by the template 'for every input the law returns true; each argument reads behind the call as it read before'; 0 by the template 'total and deterministic' (their statements: YtempfagjbpnlcaaTotals.lean).
  GIVEN WITH THE SEED: the statements are not yours to turn. If you find one false, say at which input.
  Laid BY PROGRAM, IN A SANDBOX (cutbox-rows.mjs): the forced cells as the released guide's own fill.sh prints them over the translation 1d0c23fa7a43a86e… (all of the seat's roots in one cut). By AI agents, Wed Nov 11 2026. No macro, syntax, notation, axiom, sorry.
-/
import Derived.Test.YtempfagjbpnlcaaChecked
import GoSem.Claim
import GoSem.ClaimJoined
import GoSem.ClaimMapViews
import Derived.JoinedTies
import Derived.KernelRfl
namespace Go.Proofs.Ytempfagjbpnlcaa
/- THE CELL 'sum', in the pinned program and in every row, IS THE sha256 OF THE DUMP (.gsa) THAT YtempfagjbpnlcaaProg.lean LOADS. Nothing in Lean hashes anything: it is a label: what it is worth is what the hold of that sum in a sandbox is worth. -/
noncomputable def Try.pinned : Pinned := { name := "ytempfagjbpnlcaa", sum := "1d0c23fa7a43a86e50b96f46aeb8a2c0aa26516cd8d4acf5c71a285925244fd7", checked := Try.checked }
namespace Rows
def none {H : Type} : Left H := { results := [], args := [] }

/-- 'laws.FnCodeText': WHATEVER THE INPUT: true; the input reads as it did. -/
def fnCodeTextSpec : ChangeSpec := { name := "fnCodeText", fn := fun _ => fun
  | [d] => { results := [.lit (.bool true)], args := [d] }
  | _ => none }
def fnCodeTextRow : OpenClaim := { program := "ytempfagjbpnlcaa", sum := "1d0c23fa7a43a86e50b96f46aeb8a2c0aa26516cd8d4acf5c71a285925244fd7", func := "loop.example/lettersthatarrive/laws.FnCodeText", spec := "fnCodeText", inPlace := ["internal/bytealg.IndexByteString"], apart := false }
def FnCodeTextSaid : Prop := fnCodeTextRow.holds Try.pinned (OpenSpec.ofChange fnCodeTextSpec)

/-- ITS FALSE NEIGHBOUR: 'it returns false'. Refute it at one input. -/
def fnCodeTextWrong : ChangeSpec := { name := "fnCodeText", fn := fun _ => fun
  | [d] => { results := [.lit (.bool false)], args := [d] }
  | _ => none }
def FnCodeTextWrongFalsely : Prop := fnCodeTextRow.holds Try.pinned (OpenSpec.ofChange fnCodeTextWrong)

/-- 'laws.FnReadCode': WHATEVER THE INPUT: true; the input reads as it did. -/
def fnReadCodeSpec : ChangeSpec := { name := "fnReadCode", fn := fun _ => fun
  | [d] => { results := [.lit (.bool true)], args := [d] }
  | _ => none }
def fnReadCodeRow : OpenClaim := { program := "ytempfagjbpnlcaa", sum := "1d0c23fa7a43a86e50b96f46aeb8a2c0aa26516cd8d4acf5c71a285925244fd7", func := "loop.example/lettersthatarrive/laws.FnReadCode", spec := "fnReadCode", inPlace := ["internal/bytealg.IndexByteString"], unfollowed := true, recurses := true, apart := false }
def FnReadCodeSaid : Prop := fnReadCodeRow.holds Try.pinned (OpenSpec.ofChange fnReadCodeSpec)

/-- ITS FALSE NEIGHBOUR: 'it returns false'. Refute it at one input. -/
def fnReadCodeWrong : ChangeSpec := { name := "fnReadCode", fn := fun _ => fun
  | [d] => { results := [.lit (.bool false)], args := [d] }
  | _ => none }
def FnReadCodeWrongFalsely : Prop := fnReadCodeRow.holds Try.pinned (OpenSpec.ofChange fnReadCodeWrong)

/-- 'laws.FnRepairsOf': WHATEVER THE INPUT: true; the input reads as it did. -/
def fnRepairsOfSpec : ChangeSpec := { name := "fnRepairsOf", fn := fun _ => fun
  | [d] => { results := [.lit (.bool true)], args := [d] }
  | _ => none }
def fnRepairsOfRow : OpenClaim := { program := "ytempfagjbpnlcaa", sum := "1d0c23fa7a43a86e50b96f46aeb8a2c0aa26516cd8d4acf5c71a285925244fd7", func := "loop.example/lettersthatarrive/laws.FnRepairsOf", spec := "fnRepairsOf", inPlace := ["internal/bytealg.IndexByteString"], unfollowed := true, recurses := true, apart := false }
def FnRepairsOfSaid : Prop := fnRepairsOfRow.holds Try.pinned (OpenSpec.ofChange fnRepairsOfSpec)

/-- ITS FALSE NEIGHBOUR: 'it returns false'. Refute it at one input. -/
def fnRepairsOfWrong : ChangeSpec := { name := "fnRepairsOf", fn := fun _ => fun
  | [d] => { results := [.lit (.bool false)], args := [d] }
  | _ => none }
def FnRepairsOfWrongFalsely : Prop := fnRepairsOfRow.holds Try.pinned (OpenSpec.ofChange fnRepairsOfWrong)

/-- 'laws.FnRepairsComeBack': WHATEVER THE INPUT: true; the input reads as it did. -/
def fnRepairsComeBackSpec : ChangeSpec := { name := "fnRepairsComeBack", fn := fun _ => fun
  | [d] => { results := [.lit (.bool true)], args := [d] }
  | _ => none }
def fnRepairsComeBackRow : OpenClaim := { program := "ytempfagjbpnlcaa", sum := "1d0c23fa7a43a86e50b96f46aeb8a2c0aa26516cd8d4acf5c71a285925244fd7", func := "loop.example/lettersthatarrive/laws.FnRepairsComeBack", spec := "fnRepairsComeBack", inPlace := ["internal/bytealg.IndexByteString"], unfollowed := true, recurses := true, apart := false }
def FnRepairsComeBackSaid : Prop := fnRepairsComeBackRow.holds Try.pinned (OpenSpec.ofChange fnRepairsComeBackSpec)

/-- ITS FALSE NEIGHBOUR: 'it returns false'. Refute it at one input. -/
def fnRepairsComeBackWrong : ChangeSpec := { name := "fnRepairsComeBack", fn := fun _ => fun
  | [d] => { results := [.lit (.bool false)], args := [d] }
  | _ => none }
def FnRepairsComeBackWrongFalsely : Prop := fnRepairsComeBackRow.holds Try.pinned (OpenSpec.ofChange fnRepairsComeBackWrong)

/-- 'laws.FnExactReadCode': WHATEVER THE INPUT: true; the input reads as it did. -/
def fnExactReadCodeSpec : ChangeSpec := { name := "fnExactReadCode", fn := fun _ => fun
  | [d] => { results := [.lit (.bool true)], args := [d] }
  | _ => none }
def fnExactReadCodeRow : OpenClaim := { program := "ytempfagjbpnlcaa", sum := "1d0c23fa7a43a86e50b96f46aeb8a2c0aa26516cd8d4acf5c71a285925244fd7", func := "loop.example/lettersthatarrive/laws.FnExactReadCode", spec := "fnExactReadCode", inPlace := ["internal/bytealg.IndexByteString"], apart := false }
def FnExactReadCodeSaid : Prop := fnExactReadCodeRow.holds Try.pinned (OpenSpec.ofChange fnExactReadCodeSpec)

/-- ITS FALSE NEIGHBOUR: 'it returns false'. Refute it at one input. -/
def fnExactReadCodeWrong : ChangeSpec := { name := "fnExactReadCode", fn := fun _ => fun
  | [d] => { results := [.lit (.bool false)], args := [d] }
  | _ => none }
def FnExactReadCodeWrongFalsely : Prop := fnExactReadCodeRow.holds Try.pinned (OpenSpec.ofChange fnExactReadCodeWrong)

/-- 'laws.FnExactRepairsOf': WHATEVER THE INPUT: true; the input reads as it did. -/
def fnExactRepairsOfSpec : ChangeSpec := { name := "fnExactRepairsOf", fn := fun _ => fun
  | [d] => { results := [.lit (.bool true)], args := [d] }
  | _ => none }
def fnExactRepairsOfRow : OpenClaim := { program := "ytempfagjbpnlcaa", sum := "1d0c23fa7a43a86e50b96f46aeb8a2c0aa26516cd8d4acf5c71a285925244fd7", func := "loop.example/lettersthatarrive/laws.FnExactRepairsOf", spec := "fnExactRepairsOf", inPlace := ["internal/bytealg.IndexByteString"], unfollowed := true, recurses := true, apart := false }
def FnExactRepairsOfSaid : Prop := fnExactRepairsOfRow.holds Try.pinned (OpenSpec.ofChange fnExactRepairsOfSpec)

/-- ITS FALSE NEIGHBOUR: 'it returns false'. Refute it at one input. -/
def fnExactRepairsOfWrong : ChangeSpec := { name := "fnExactRepairsOf", fn := fun _ => fun
  | [d] => { results := [.lit (.bool false)], args := [d] }
  | _ => none }
def FnExactRepairsOfWrongFalsely : Prop := fnExactRepairsOfRow.holds Try.pinned (OpenSpec.ofChange fnExactRepairsOfWrong)

/- THE SECOND FORM. 'bulk': how many values and letters a reading holds, each counted each time it is reached (what is shared counts as often as it is met; a slice's spare places count too). A statement '..UptoSaid' is the law's where the arguments, and the package variables that the reading takes, are together of bulk at most 1048576: NARROWER than '..Said'. Prove '..Said' where nothing that the law and all that it calls make is longer than what came in: it says more and counts as full. Else prove '..UptoSaid'. A law counts once. -/
mutual
def uptoBulk {H : Type} : DataW H → Nat
  | .lit (.string bytes) => bytes.length + 1
  | .lit _ => 1
  | .nil => 1
  | .ptr d => uptoBulk d + 1
  | .slice elems spare => uptoBulkAll elems + uptoBulkAll spare + 1
  | .agg parts => uptoBulkAll parts + 1
  | .iface _ d => uptoBulk d + 1
  | .map entries => uptoBulkEntries entries + 1
  | .held _ => 1
def uptoBulkAll {H : Type} : List (DataW H) → Nat
  | [] => 0
  | d :: r => uptoBulk d + uptoBulkAll r
def uptoBulkEntries {H : Type} : List (Lit × DataW H) → Nat
  | [] => 0
  | x :: r => uptoBulkEntry x + uptoBulkEntries r
def uptoBulkEntry {H : Type} : Lit × DataW H → Nat
  | (.string bytes, d) => bytes.length + uptoBulk d + 1
  | (_, d) => uptoBulk d + 1
 end
def uptoSmall : (H : Type) → List (DataW H) → Bool := fun _ ds => decide (uptoBulkAll ds ≤ 1048576)
def OpenSpec.upto (s : _root_.Go.ChangeSpec) : _root_.Go.OpenSpec := { _root_.Go.OpenSpec.ofChange s with cond := some uptoSmall }

/-- 'laws.FnCodeText', WHERE WHAT IT READS IS OF BULK AT MOST 1048576: true; the input reads as it did. -/
def fnCodeTextUptoRow : OpenClaim := { program := "ytempfagjbpnlcaa", sum := "1d0c23fa7a43a86e50b96f46aeb8a2c0aa26516cd8d4acf5c71a285925244fd7", func := "loop.example/lettersthatarrive/laws.FnCodeText", spec := "fnCodeText", inPlace := ["internal/bytealg.IndexByteString"], apart := false, narrowed := true }
def FnCodeTextUptoSaid : Prop := fnCodeTextUptoRow.holds Try.pinned (OpenSpec.upto fnCodeTextSpec)

/-- 'laws.FnReadCode', WHERE WHAT IT READS IS OF BULK AT MOST 1048576: true; the input reads as it did. -/
def fnReadCodeUptoRow : OpenClaim := { program := "ytempfagjbpnlcaa", sum := "1d0c23fa7a43a86e50b96f46aeb8a2c0aa26516cd8d4acf5c71a285925244fd7", func := "loop.example/lettersthatarrive/laws.FnReadCode", spec := "fnReadCode", inPlace := ["internal/bytealg.IndexByteString"], unfollowed := true, recurses := true, apart := false, narrowed := true }
def FnReadCodeUptoSaid : Prop := fnReadCodeUptoRow.holds Try.pinned (OpenSpec.upto fnReadCodeSpec)

/-- 'laws.FnRepairsOf', WHERE WHAT IT READS IS OF BULK AT MOST 1048576: true; the input reads as it did. -/
def fnRepairsOfUptoRow : OpenClaim := { program := "ytempfagjbpnlcaa", sum := "1d0c23fa7a43a86e50b96f46aeb8a2c0aa26516cd8d4acf5c71a285925244fd7", func := "loop.example/lettersthatarrive/laws.FnRepairsOf", spec := "fnRepairsOf", inPlace := ["internal/bytealg.IndexByteString"], unfollowed := true, recurses := true, apart := false, narrowed := true }
def FnRepairsOfUptoSaid : Prop := fnRepairsOfUptoRow.holds Try.pinned (OpenSpec.upto fnRepairsOfSpec)

/-- 'laws.FnRepairsComeBack', WHERE WHAT IT READS IS OF BULK AT MOST 1048576: true; the input reads as it did. -/
def fnRepairsComeBackUptoRow : OpenClaim := { program := "ytempfagjbpnlcaa", sum := "1d0c23fa7a43a86e50b96f46aeb8a2c0aa26516cd8d4acf5c71a285925244fd7", func := "loop.example/lettersthatarrive/laws.FnRepairsComeBack", spec := "fnRepairsComeBack", inPlace := ["internal/bytealg.IndexByteString"], unfollowed := true, recurses := true, apart := false, narrowed := true }
def FnRepairsComeBackUptoSaid : Prop := fnRepairsComeBackUptoRow.holds Try.pinned (OpenSpec.upto fnRepairsComeBackSpec)

/-- 'laws.FnExactReadCode', WHERE WHAT IT READS IS OF BULK AT MOST 1048576: true; the input reads as it did. -/
def fnExactReadCodeUptoRow : OpenClaim := { program := "ytempfagjbpnlcaa", sum := "1d0c23fa7a43a86e50b96f46aeb8a2c0aa26516cd8d4acf5c71a285925244fd7", func := "loop.example/lettersthatarrive/laws.FnExactReadCode", spec := "fnExactReadCode", inPlace := ["internal/bytealg.IndexByteString"], apart := false, narrowed := true }
def FnExactReadCodeUptoSaid : Prop := fnExactReadCodeUptoRow.holds Try.pinned (OpenSpec.upto fnExactReadCodeSpec)

/-- 'laws.FnExactRepairsOf', WHERE WHAT IT READS IS OF BULK AT MOST 1048576: true; the input reads as it did. -/
def fnExactRepairsOfUptoRow : OpenClaim := { program := "ytempfagjbpnlcaa", sum := "1d0c23fa7a43a86e50b96f46aeb8a2c0aa26516cd8d4acf5c71a285925244fd7", func := "loop.example/lettersthatarrive/laws.FnExactRepairsOf", spec := "fnExactRepairsOf", inPlace := ["internal/bytealg.IndexByteString"], unfollowed := true, recurses := true, apart := false, narrowed := true }
def FnExactRepairsOfUptoSaid : Prop := fnExactRepairsOfUptoRow.holds Try.pinned (OpenSpec.upto fnExactRepairsOfSpec)

end Rows
end Go.Proofs.Ytempfagjbpnlcaa
