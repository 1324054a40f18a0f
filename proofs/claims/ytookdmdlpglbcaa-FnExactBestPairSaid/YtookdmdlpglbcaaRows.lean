/-
  No cell of these rows narrows 'for every input' (looked for: loops, veiled, ifaces, maps, wideKeys, modest, calm, conditions, laid).
  DERIVED. THE GIVEN ROWS OF THIS SEAT. 8 by the template 'for every input the law returns true; each argument reads behind the call as it read before'; 0 by the template 'total and deterministic' (their statements: YtookdmdlpglbcaaTotals.lean).
  GIVEN WITH THE SEED: the statements are not yours to turn. If you find one false, say at which input.
  Laid BY PROGRAM, IN A SANDBOX (cutbox-rows.mjs): the forced cells as the released guide's own fill.sh prints them over the translation 517c35c9057cf2a2… (all of the seat's roots in one cut). By AI agents, Wed Nov 11 2026. No macro, syntax, notation, axiom, sorry.
-/
import Derived.Test.YtookdmdlpglbcaaChecked
import GoSem.Claim
import GoSem.ClaimJoined
import GoSem.ClaimMapViews
import Derived.JoinedTies
import Derived.KernelRfl
namespace Go.Proofs.Ytookdmdlpglbcaa
/- THE CELL 'sum', in the pinned program and in every row, IS THE sha256 OF THE DUMP (.gsa) THAT YtookdmdlpglbcaaProg.lean LOADS. Nothing in Lean hashes anything: it is a label: what it is worth is what the hold of that sum in a sandbox is worth. -/
noncomputable def Try.pinned : Pinned := { name := "ytookdmdlpglbcaa", sum := "517c35c9057cf2a22b8bbe7c56a5252105559a51e23b3852dc36be08b62810cf", checked := Try.checked }
namespace Rows
def none {H : Type} : Left H := { results := [], args := [] }

/-- 'laws.FnExactValidStamps': WHATEVER THE INPUT: true; the input reads as it did. -/
def fnExactValidStampsSpec : ChangeSpec := { name := "fnExactValidStamps", fn := fun _ => fun
  | [d] => { results := [.lit (.bool true)], args := [d] }
  | _ => none }
def fnExactValidStampsRow : OpenClaim := { program := "ytookdmdlpglbcaa", sum := "517c35c9057cf2a22b8bbe7c56a5252105559a51e23b3852dc36be08b62810cf", func := "loop.example/lettersthatarrive/laws.FnExactValidStamps", spec := "fnExactValidStamps", apart := false }
def FnExactValidStampsSaid : Prop := fnExactValidStampsRow.holds Try.pinned (OpenSpec.ofChange fnExactValidStampsSpec)

/-- ITS FALSE NEIGHBOUR: 'it returns false'. Refute it at one input. -/
def fnExactValidStampsWrong : ChangeSpec := { name := "fnExactValidStamps", fn := fun _ => fun
  | [d] => { results := [.lit (.bool false)], args := [d] }
  | _ => none }
def FnExactValidStampsWrongFalsely : Prop := fnExactValidStampsRow.holds Try.pinned (OpenSpec.ofChange fnExactValidStampsWrong)

/-- 'laws.FnExactFewestStamps': WHATEVER THE INPUT: true; the input reads as it did. -/
def fnExactFewestStampsSpec : ChangeSpec := { name := "fnExactFewestStamps", fn := fun _ => fun
  | [d1, d2] => { results := [.lit (.bool true)], args := [d1, d2] }
  | _ => none }
def fnExactFewestStampsRow : OpenClaim := { program := "ytookdmdlpglbcaa", sum := "517c35c9057cf2a22b8bbe7c56a5252105559a51e23b3852dc36be08b62810cf", func := "loop.example/lettersthatarrive/laws.FnExactFewestStamps", spec := "fnExactFewestStamps", unfollowed := true, recurses := true, apart := false }
def FnExactFewestStampsSaid : Prop := fnExactFewestStampsRow.holds Try.pinned (OpenSpec.ofChange fnExactFewestStampsSpec)

/-- ITS FALSE NEIGHBOUR: 'it returns false'. Refute it at one input. -/
def fnExactFewestStampsWrong : ChangeSpec := { name := "fnExactFewestStamps", fn := fun _ => fun
  | [d1, d2] => { results := [.lit (.bool false)], args := [d1, d2] }
  | _ => none }
def FnExactFewestStampsWrongFalsely : Prop := fnExactFewestStampsRow.holds Try.pinned (OpenSpec.ofChange fnExactFewestStampsWrong)

/-- 'laws.FnExactGreedyStamps': WHATEVER THE INPUT: true; the input reads as it did. -/
def fnExactGreedyStampsSpec : ChangeSpec := { name := "fnExactGreedyStamps", fn := fun _ => fun
  | [d1, d2] => { results := [.lit (.bool true)], args := [d1, d2] }
  | _ => none }
def fnExactGreedyStampsRow : OpenClaim := { program := "ytookdmdlpglbcaa", sum := "517c35c9057cf2a22b8bbe7c56a5252105559a51e23b3852dc36be08b62810cf", func := "loop.example/lettersthatarrive/laws.FnExactGreedyStamps", spec := "fnExactGreedyStamps", unfollowed := true, recurses := true, apart := false }
def FnExactGreedyStampsSaid : Prop := fnExactGreedyStampsRow.holds Try.pinned (OpenSpec.ofChange fnExactGreedyStampsSpec)

/-- ITS FALSE NEIGHBOUR: 'it returns false'. Refute it at one input. -/
def fnExactGreedyStampsWrong : ChangeSpec := { name := "fnExactGreedyStamps", fn := fun _ => fun
  | [d1, d2] => { results := [.lit (.bool false)], args := [d1, d2] }
  | _ => none }
def FnExactGreedyStampsWrongFalsely : Prop := fnExactGreedyStampsRow.holds Try.pinned (OpenSpec.ofChange fnExactGreedyStampsWrong)

/-- 'laws.FnExactFirstWaste': WHATEVER THE INPUT: true; the input reads as it did. -/
def fnExactFirstWasteSpec : ChangeSpec := { name := "fnExactFirstWaste", fn := fun _ => fun
  | [d] => { results := [.lit (.bool true)], args := [d] }
  | _ => none }
def fnExactFirstWasteRow : OpenClaim := { program := "ytookdmdlpglbcaa", sum := "517c35c9057cf2a22b8bbe7c56a5252105559a51e23b3852dc36be08b62810cf", func := "loop.example/lettersthatarrive/laws.FnExactFirstWaste", spec := "fnExactFirstWaste", unfollowed := true, recurses := true, apart := false }
def FnExactFirstWasteSaid : Prop := fnExactFirstWasteRow.holds Try.pinned (OpenSpec.ofChange fnExactFirstWasteSpec)

/-- ITS FALSE NEIGHBOUR: 'it returns false'. Refute it at one input. -/
def fnExactFirstWasteWrong : ChangeSpec := { name := "fnExactFirstWaste", fn := fun _ => fun
  | [d] => { results := [.lit (.bool false)], args := [d] }
  | _ => none }
def FnExactFirstWasteWrongFalsely : Prop := fnExactFirstWasteRow.holds Try.pinned (OpenSpec.ofChange fnExactFirstWasteWrong)

/-- 'laws.FnExactReachOf': WHATEVER THE INPUT: true; the input reads as it did. -/
def fnExactReachOfSpec : ChangeSpec := { name := "fnExactReachOf", fn := fun _ => fun
  | [d1, d2] => { results := [.lit (.bool true)], args := [d1, d2] }
  | _ => none }
def fnExactReachOfRow : OpenClaim := { program := "ytookdmdlpglbcaa", sum := "517c35c9057cf2a22b8bbe7c56a5252105559a51e23b3852dc36be08b62810cf", func := "loop.example/lettersthatarrive/laws.FnExactReachOf", spec := "fnExactReachOf", unfollowed := true, recurses := true, apart := false }
def FnExactReachOfSaid : Prop := fnExactReachOfRow.holds Try.pinned (OpenSpec.ofChange fnExactReachOfSpec)

/-- ITS FALSE NEIGHBOUR: 'it returns false'. Refute it at one input. -/
def fnExactReachOfWrong : ChangeSpec := { name := "fnExactReachOf", fn := fun _ => fun
  | [d1, d2] => { results := [.lit (.bool false)], args := [d1, d2] }
  | _ => none }
def FnExactReachOfWrongFalsely : Prop := fnExactReachOfRow.holds Try.pinned (OpenSpec.ofChange fnExactReachOfWrong)

/-- 'laws.FnExactBestPair': WHATEVER THE INPUT: true; the input reads as it did. -/
def fnExactBestPairSpec : ChangeSpec := { name := "fnExactBestPair", fn := fun _ => fun
  | [d] => { results := [.lit (.bool true)], args := [d] }
  | _ => none }
def fnExactBestPairRow : OpenClaim := { program := "ytookdmdlpglbcaa", sum := "517c35c9057cf2a22b8bbe7c56a5252105559a51e23b3852dc36be08b62810cf", func := "loop.example/lettersthatarrive/laws.FnExactBestPair", spec := "fnExactBestPair", unfollowed := true, recurses := true, apart := false }
def FnExactBestPairSaid : Prop := fnExactBestPairRow.holds Try.pinned (OpenSpec.ofChange fnExactBestPairSpec)

/-- ITS FALSE NEIGHBOUR: 'it returns false'. Refute it at one input. -/
def fnExactBestPairWrong : ChangeSpec := { name := "fnExactBestPair", fn := fun _ => fun
  | [d] => { results := [.lit (.bool false)], args := [d] }
  | _ => none }
def FnExactBestPairWrongFalsely : Prop := fnExactBestPairRow.holds Try.pinned (OpenSpec.ofChange fnExactBestPairWrong)

/-- 'laws.FnExactNotPaid': WHATEVER THE INPUT: true; the input reads as it did. -/
def fnExactNotPaidSpec : ChangeSpec := { name := "fnExactNotPaid", fn := fun _ => fun
  | [d] => { results := [.lit (.bool true)], args := [d] }
  | _ => none }
def fnExactNotPaidRow : OpenClaim := { program := "ytookdmdlpglbcaa", sum := "517c35c9057cf2a22b8bbe7c56a5252105559a51e23b3852dc36be08b62810cf", func := "loop.example/lettersthatarrive/laws.FnExactNotPaid", spec := "fnExactNotPaid", unfollowed := true, recurses := true, apart := false }
def FnExactNotPaidSaid : Prop := fnExactNotPaidRow.holds Try.pinned (OpenSpec.ofChange fnExactNotPaidSpec)

/-- ITS FALSE NEIGHBOUR: 'it returns false'. Refute it at one input. -/
def fnExactNotPaidWrong : ChangeSpec := { name := "fnExactNotPaid", fn := fun _ => fun
  | [d] => { results := [.lit (.bool false)], args := [d] }
  | _ => none }
def FnExactNotPaidWrongFalsely : Prop := fnExactNotPaidRow.holds Try.pinned (OpenSpec.ofChange fnExactNotPaidWrong)

/-- 'laws.FnValidStamps': WHATEVER THE INPUT: true; the input reads as it did. -/
def fnValidStampsSpec : ChangeSpec := { name := "fnValidStamps", fn := fun _ => fun
  | [d] => { results := [.lit (.bool true)], args := [d] }
  | _ => none }
def fnValidStampsRow : OpenClaim := { program := "ytookdmdlpglbcaa", sum := "517c35c9057cf2a22b8bbe7c56a5252105559a51e23b3852dc36be08b62810cf", func := "loop.example/lettersthatarrive/laws.FnValidStamps", spec := "fnValidStamps", apart := false }
def FnValidStampsSaid : Prop := fnValidStampsRow.holds Try.pinned (OpenSpec.ofChange fnValidStampsSpec)

/-- ITS FALSE NEIGHBOUR: 'it returns false'. Refute it at one input. -/
def fnValidStampsWrong : ChangeSpec := { name := "fnValidStamps", fn := fun _ => fun
  | [d] => { results := [.lit (.bool false)], args := [d] }
  | _ => none }
def FnValidStampsWrongFalsely : Prop := fnValidStampsRow.holds Try.pinned (OpenSpec.ofChange fnValidStampsWrong)

/- THE SECOND FORM. 'bulk': how many values and letters a reading holds, each counted each time it is reached (what is shared counts as often as it is met; a slice's spare places count too). A statement '..UptoSaid' is the law's where the arguments, and the package variables that the reading takes, are together of bulk at most 1048576: NARROWER than '..Said'. Prove '..Said' where nothing that the law and all that it calls make is longer than what came in: it says more and counts as full. Else prove '..UptoSaid'. A law counts once. -/
mutual
def uptoBulk {H : Type} : DataW H → Nat
  | .lit (.string bytes) => bytes.length + 1
  | .lit _ => 1
  | .nil => 1
  | .ptr d => uptoBulk d + 1
  | .slice elems spare => uptoBulkAll elems + uptoBulkAll spare + 1
  | .agg parts => uptoBulkAll parts + 1
  | .iface _ d => uptoBulk d + 1
  | .map entries => uptoBulkEntries entries + 1
  | .held _ => 1
def uptoBulkAll {H : Type} : List (DataW H) → Nat
  | [] => 0
  | d :: r => uptoBulk d + uptoBulkAll r
def uptoBulkEntries {H : Type} : List (Lit × DataW H) → Nat
  | [] => 0
  | x :: r => uptoBulkEntry x + uptoBulkEntries r
def uptoBulkEntry {H : Type} : Lit × DataW H → Nat
  | (.string bytes, d) => bytes.length + uptoBulk d + 1
  | (_, d) => uptoBulk d + 1
 end
def uptoSmall : (H : Type) → List (DataW H) → Bool := fun _ ds => decide (uptoBulkAll ds ≤ 1048576)
def OpenSpec.upto (s : _root_.Go.ChangeSpec) : _root_.Go.OpenSpec := { _root_.Go.OpenSpec.ofChange s with cond := some uptoSmall }

/-- 'laws.FnExactValidStamps', WHERE WHAT IT READS IS OF BULK AT MOST 1048576: true; the input reads as it did. -/
def fnExactValidStampsUptoRow : OpenClaim := { program := "ytookdmdlpglbcaa", sum := "517c35c9057cf2a22b8bbe7c56a5252105559a51e23b3852dc36be08b62810cf", func := "loop.example/lettersthatarrive/laws.FnExactValidStamps", spec := "fnExactValidStamps", apart := false, narrowed := true }
def FnExactValidStampsUptoSaid : Prop := fnExactValidStampsUptoRow.holds Try.pinned (OpenSpec.upto fnExactValidStampsSpec)

/-- 'laws.FnExactFewestStamps', WHERE WHAT IT READS IS OF BULK AT MOST 1048576: true; the input reads as it did. -/
def fnExactFewestStampsUptoRow : OpenClaim := { program := "ytookdmdlpglbcaa", sum := "517c35c9057cf2a22b8bbe7c56a5252105559a51e23b3852dc36be08b62810cf", func := "loop.example/lettersthatarrive/laws.FnExactFewestStamps", spec := "fnExactFewestStamps", unfollowed := true, recurses := true, apart := false, narrowed := true }
def FnExactFewestStampsUptoSaid : Prop := fnExactFewestStampsUptoRow.holds Try.pinned (OpenSpec.upto fnExactFewestStampsSpec)

/-- 'laws.FnExactGreedyStamps', WHERE WHAT IT READS IS OF BULK AT MOST 1048576: true; the input reads as it did. -/
def fnExactGreedyStampsUptoRow : OpenClaim := { program := "ytookdmdlpglbcaa", sum := "517c35c9057cf2a22b8bbe7c56a5252105559a51e23b3852dc36be08b62810cf", func := "loop.example/lettersthatarrive/laws.FnExactGreedyStamps", spec := "fnExactGreedyStamps", unfollowed := true, recurses := true, apart := false, narrowed := true }
def FnExactGreedyStampsUptoSaid : Prop := fnExactGreedyStampsUptoRow.holds Try.pinned (OpenSpec.upto fnExactGreedyStampsSpec)

/-- 'laws.FnExactFirstWaste', WHERE WHAT IT READS IS OF BULK AT MOST 1048576: true; the input reads as it did. -/
def fnExactFirstWasteUptoRow : OpenClaim := { program := "ytookdmdlpglbcaa", sum := "517c35c9057cf2a22b8bbe7c56a5252105559a51e23b3852dc36be08b62810cf", func := "loop.example/lettersthatarrive/laws.FnExactFirstWaste", spec := "fnExactFirstWaste", unfollowed := true, recurses := true, apart := false, narrowed := true }
def FnExactFirstWasteUptoSaid : Prop := fnExactFirstWasteUptoRow.holds Try.pinned (OpenSpec.upto fnExactFirstWasteSpec)

/-- 'laws.FnExactReachOf', WHERE WHAT IT READS IS OF BULK AT MOST 1048576: true; the input reads as it did. -/
def fnExactReachOfUptoRow : OpenClaim := { program := "ytookdmdlpglbcaa", sum := "517c35c9057cf2a22b8bbe7c56a5252105559a51e23b3852dc36be08b62810cf", func := "loop.example/lettersthatarrive/laws.FnExactReachOf", spec := "fnExactReachOf", unfollowed := true, recurses := true, apart := false, narrowed := true }
def FnExactReachOfUptoSaid : Prop := fnExactReachOfUptoRow.holds Try.pinned (OpenSpec.upto fnExactReachOfSpec)

/-- 'laws.FnExactBestPair', WHERE WHAT IT READS IS OF BULK AT MOST 1048576: true; the input reads as it did. -/
def fnExactBestPairUptoRow : OpenClaim := { program := "ytookdmdlpglbcaa", sum := "517c35c9057cf2a22b8bbe7c56a5252105559a51e23b3852dc36be08b62810cf", func := "loop.example/lettersthatarrive/laws.FnExactBestPair", spec := "fnExactBestPair", unfollowed := true, recurses := true, apart := false, narrowed := true }
def FnExactBestPairUptoSaid : Prop := fnExactBestPairUptoRow.holds Try.pinned (OpenSpec.upto fnExactBestPairSpec)

/-- 'laws.FnExactNotPaid', WHERE WHAT IT READS IS OF BULK AT MOST 1048576: true; the input reads as it did. -/
def fnExactNotPaidUptoRow : OpenClaim := { program := "ytookdmdlpglbcaa", sum := "517c35c9057cf2a22b8bbe7c56a5252105559a51e23b3852dc36be08b62810cf", func := "loop.example/lettersthatarrive/laws.FnExactNotPaid", spec := "fnExactNotPaid", unfollowed := true, recurses := true, apart := false, narrowed := true }
def FnExactNotPaidUptoSaid : Prop := fnExactNotPaidUptoRow.holds Try.pinned (OpenSpec.upto fnExactNotPaidSpec)

/-- 'laws.FnValidStamps', WHERE WHAT IT READS IS OF BULK AT MOST 1048576: true; the input reads as it did. -/
def fnValidStampsUptoRow : OpenClaim := { program := "ytookdmdlpglbcaa", sum := "517c35c9057cf2a22b8bbe7c56a5252105559a51e23b3852dc36be08b62810cf", func := "loop.example/lettersthatarrive/laws.FnValidStamps", spec := "fnValidStamps", apart := false, narrowed := true }
def FnValidStampsUptoSaid : Prop := fnValidStampsUptoRow.holds Try.pinned (OpenSpec.upto fnValidStampsSpec)

end Rows
end Go.Proofs.Ytookdmdlpglbcaa
