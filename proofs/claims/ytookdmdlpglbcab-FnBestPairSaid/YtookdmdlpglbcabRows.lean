/-
  No cell of these rows narrows 'for every input' (looked for: loops, veiled, ifaces, maps, wideKeys, modest, calm, conditions, laid).
  DERIVED. THE GIVEN ROWS OF THIS SEAT. 8 by the template 'for every input the law returns true; each argument reads behind the call as it read before'; 0 by the template 'total and deterministic' (their statements: YtookdmdlpglbcabTotals.lean).
  GIVEN WITH THE SEED: the statements are not yours to turn. If you find one false, say at which input.
  Laid BY PROGRAM, IN A SANDBOX (cutbox-rows.mjs): the forced cells as the released guide's own fill.sh prints them over the translation fa23c5cddd3500a1… (all of the seat's roots in one cut). By AI agents, Wed Nov 11 2026. No macro, syntax, notation, axiom, sorry.
-/
import Derived.Test.YtookdmdlpglbcabChecked
import GoSem.Claim
import GoSem.ClaimJoined
import GoSem.ClaimMapViews
import Derived.JoinedTies
import Derived.KernelRfl
namespace Go.Proofs.Ytookdmdlpglbcab
/- THE CELL 'sum', in the pinned program and in every row, IS THE sha256 OF THE DUMP (.gsa) THAT YtookdmdlpglbcabProg.lean LOADS. Nothing in Lean hashes anything: it is a label: what it is worth is what the hold of that sum in a sandbox is worth. -/
noncomputable def Try.pinned : Pinned := { name := "ytookdmdlpglbcab", sum := "fa23c5cddd3500a103acc4bddcc9213bf65117bb6a3f204206ee0ba471709876", checked := Try.checked }
namespace Rows
def none {H : Type} : Left H := { results := [], args := [] }

/-- 'laws.FnFewestStamps': WHATEVER THE INPUT: true; the input reads as it did. -/
def fnFewestStampsSpec : ChangeSpec := { name := "fnFewestStamps", fn := fun _ => fun
  | [d] => { results := [.lit (.bool true)], args := [d] }
  | _ => none }
def fnFewestStampsRow : OpenClaim := { program := "ytookdmdlpglbcab", sum := "fa23c5cddd3500a103acc4bddcc9213bf65117bb6a3f204206ee0ba471709876", func := "loop.example/lettersthatarrive/laws.FnFewestStamps", spec := "fnFewestStamps", unfollowed := true, recurses := true, apart := false }
def FnFewestStampsSaid : Prop := fnFewestStampsRow.holds Try.pinned (OpenSpec.ofChange fnFewestStampsSpec)

/-- ITS FALSE NEIGHBOUR: 'it returns false'. Refute it at one input. -/
def fnFewestStampsWrong : ChangeSpec := { name := "fnFewestStamps", fn := fun _ => fun
  | [d] => { results := [.lit (.bool false)], args := [d] }
  | _ => none }
def FnFewestStampsWrongFalsely : Prop := fnFewestStampsRow.holds Try.pinned (OpenSpec.ofChange fnFewestStampsWrong)

/-- 'laws.FnGreedyStamps': WHATEVER THE INPUT: true; the input reads as it did. -/
def fnGreedyStampsSpec : ChangeSpec := { name := "fnGreedyStamps", fn := fun _ => fun
  | [d] => { results := [.lit (.bool true)], args := [d] }
  | _ => none }
def fnGreedyStampsRow : OpenClaim := { program := "ytookdmdlpglbcab", sum := "fa23c5cddd3500a103acc4bddcc9213bf65117bb6a3f204206ee0ba471709876", func := "loop.example/lettersthatarrive/laws.FnGreedyStamps", spec := "fnGreedyStamps", unfollowed := true, recurses := true, apart := false }
def FnGreedyStampsSaid : Prop := fnGreedyStampsRow.holds Try.pinned (OpenSpec.ofChange fnGreedyStampsSpec)

/-- ITS FALSE NEIGHBOUR: 'it returns false'. Refute it at one input. -/
def fnGreedyStampsWrong : ChangeSpec := { name := "fnGreedyStamps", fn := fun _ => fun
  | [d] => { results := [.lit (.bool false)], args := [d] }
  | _ => none }
def FnGreedyStampsWrongFalsely : Prop := fnGreedyStampsRow.holds Try.pinned (OpenSpec.ofChange fnGreedyStampsWrong)

/-- 'laws.FnFirstWaste': WHATEVER THE INPUT: true; the input reads as it did. -/
def fnFirstWasteSpec : ChangeSpec := { name := "fnFirstWaste", fn := fun _ => fun
  | [d] => { results := [.lit (.bool true)], args := [d] }
  | _ => none }
def fnFirstWasteRow : OpenClaim := { program := "ytookdmdlpglbcab", sum := "fa23c5cddd3500a103acc4bddcc9213bf65117bb6a3f204206ee0ba471709876", func := "loop.example/lettersthatarrive/laws.FnFirstWaste", spec := "fnFirstWaste", unfollowed := true, recurses := true, apart := false }
def FnFirstWasteSaid : Prop := fnFirstWasteRow.holds Try.pinned (OpenSpec.ofChange fnFirstWasteSpec)

/-- ITS FALSE NEIGHBOUR: 'it returns false'. Refute it at one input. -/
def fnFirstWasteWrong : ChangeSpec := { name := "fnFirstWaste", fn := fun _ => fun
  | [d] => { results := [.lit (.bool false)], args := [d] }
  | _ => none }
def FnFirstWasteWrongFalsely : Prop := fnFirstWasteRow.holds Try.pinned (OpenSpec.ofChange fnFirstWasteWrong)

/-- 'laws.FnReachOf': WHATEVER THE INPUT: true; the input reads as it did. -/
def fnReachOfSpec : ChangeSpec := { name := "fnReachOf", fn := fun _ => fun
  | [d] => { results := [.lit (.bool true)], args := [d] }
  | _ => none }
def fnReachOfRow : OpenClaim := { program := "ytookdmdlpglbcab", sum := "fa23c5cddd3500a103acc4bddcc9213bf65117bb6a3f204206ee0ba471709876", func := "loop.example/lettersthatarrive/laws.FnReachOf", spec := "fnReachOf", unfollowed := true, recurses := true, apart := false }
def FnReachOfSaid : Prop := fnReachOfRow.holds Try.pinned (OpenSpec.ofChange fnReachOfSpec)

/-- ITS FALSE NEIGHBOUR: 'it returns false'. Refute it at one input. -/
def fnReachOfWrong : ChangeSpec := { name := "fnReachOf", fn := fun _ => fun
  | [d] => { results := [.lit (.bool false)], args := [d] }
  | _ => none }
def FnReachOfWrongFalsely : Prop := fnReachOfRow.holds Try.pinned (OpenSpec.ofChange fnReachOfWrong)

/-- 'laws.FnBestPair': WHATEVER THE INPUT: true; the input reads as it did. -/
def fnBestPairSpec : ChangeSpec := { name := "fnBestPair", fn := fun _ => fun
  | [d] => { results := [.lit (.bool true)], args := [d] }
  | _ => none }
def fnBestPairRow : OpenClaim := { program := "ytookdmdlpglbcab", sum := "fa23c5cddd3500a103acc4bddcc9213bf65117bb6a3f204206ee0ba471709876", func := "loop.example/lettersthatarrive/laws.FnBestPair", spec := "fnBestPair", unfollowed := true, recurses := true, apart := false }
def FnBestPairSaid : Prop := fnBestPairRow.holds Try.pinned (OpenSpec.ofChange fnBestPairSpec)

/-- ITS FALSE NEIGHBOUR: 'it returns false'. Refute it at one input. -/
def fnBestPairWrong : ChangeSpec := { name := "fnBestPair", fn := fun _ => fun
  | [d] => { results := [.lit (.bool false)], args := [d] }
  | _ => none }
def FnBestPairWrongFalsely : Prop := fnBestPairRow.holds Try.pinned (OpenSpec.ofChange fnBestPairWrong)

/-- 'laws.FnNotPaid': WHATEVER THE INPUT: true; the input reads as it did. -/
def fnNotPaidSpec : ChangeSpec := { name := "fnNotPaid", fn := fun _ => fun
  | [d] => { results := [.lit (.bool true)], args := [d] }
  | _ => none }
def fnNotPaidRow : OpenClaim := { program := "ytookdmdlpglbcab", sum := "fa23c5cddd3500a103acc4bddcc9213bf65117bb6a3f204206ee0ba471709876", func := "loop.example/lettersthatarrive/laws.FnNotPaid", spec := "fnNotPaid", unfollowed := true, recurses := true, apart := false }
def FnNotPaidSaid : Prop := fnNotPaidRow.holds Try.pinned (OpenSpec.ofChange fnNotPaidSpec)

/-- ITS FALSE NEIGHBOUR: 'it returns false'. Refute it at one input. -/
def fnNotPaidWrong : ChangeSpec := { name := "fnNotPaid", fn := fun _ => fun
  | [d] => { results := [.lit (.bool false)], args := [d] }
  | _ => none }
def FnNotPaidWrongFalsely : Prop := fnNotPaidRow.holds Try.pinned (OpenSpec.ofChange fnNotPaidWrong)

/-- 'laws.FnStampsScale': WHATEVER THE INPUT: true; the input reads as it did. -/
def fnStampsScaleSpec : ChangeSpec := { name := "fnStampsScale", fn := fun _ => fun
  | [d] => { results := [.lit (.bool true)], args := [d] }
  | _ => none }
def fnStampsScaleRow : OpenClaim := { program := "ytookdmdlpglbcab", sum := "fa23c5cddd3500a103acc4bddcc9213bf65117bb6a3f204206ee0ba471709876", func := "loop.example/lettersthatarrive/laws.FnStampsScale", spec := "fnStampsScale", unfollowed := true, recurses := true, apart := false }
def FnStampsScaleSaid : Prop := fnStampsScaleRow.holds Try.pinned (OpenSpec.ofChange fnStampsScaleSpec)

/-- ITS FALSE NEIGHBOUR: 'it returns false'. Refute it at one input. -/
def fnStampsScaleWrong : ChangeSpec := { name := "fnStampsScale", fn := fun _ => fun
  | [d] => { results := [.lit (.bool false)], args := [d] }
  | _ => none }
def FnStampsScaleWrongFalsely : Prop := fnStampsScaleRow.holds Try.pinned (OpenSpec.ofChange fnStampsScaleWrong)

/-- 'laws.FnMoreKindsAreFewer': WHATEVER THE INPUT: true; the input reads as it did. -/
def fnMoreKindsAreFewerSpec : ChangeSpec := { name := "fnMoreKindsAreFewer", fn := fun _ => fun
  | [d] => { results := [.lit (.bool true)], args := [d] }
  | _ => none }
def fnMoreKindsAreFewerRow : OpenClaim := { program := "ytookdmdlpglbcab", sum := "fa23c5cddd3500a103acc4bddcc9213bf65117bb6a3f204206ee0ba471709876", func := "loop.example/lettersthatarrive/laws.FnMoreKindsAreFewer", spec := "fnMoreKindsAreFewer", unfollowed := true, recurses := true, apart := false }
def FnMoreKindsAreFewerSaid : Prop := fnMoreKindsAreFewerRow.holds Try.pinned (OpenSpec.ofChange fnMoreKindsAreFewerSpec)

/-- ITS FALSE NEIGHBOUR: 'it returns false'. Refute it at one input. -/
def fnMoreKindsAreFewerWrong : ChangeSpec := { name := "fnMoreKindsAreFewer", fn := fun _ => fun
  | [d] => { results := [.lit (.bool false)], args := [d] }
  | _ => none }
def FnMoreKindsAreFewerWrongFalsely : Prop := fnMoreKindsAreFewerRow.holds Try.pinned (OpenSpec.ofChange fnMoreKindsAreFewerWrong)

/- THE SECOND FORM. 'bulk': how many values and letters a reading holds, each counted each time it is reached (what is shared counts as often as it is met; a slice's spare places count too). A statement '..UptoSaid' is the law's where the arguments, and the package variables that the reading takes, are together of bulk at most 1048576: NARROWER than '..Said'. Prove '..Said' where nothing that the law and all that it calls make is longer than what came in: it says more and counts as full. Else prove '..UptoSaid'. A law counts once. -/
mutual
def uptoBulk {H : Type} : DataW H → Nat
  | .lit (.string bytes) => bytes.length + 1
  | .lit _ => 1
  | .nil => 1
  | .ptr d => uptoBulk d + 1
  | .slice elems spare => uptoBulkAll elems + uptoBulkAll spare + 1
  | .agg parts => uptoBulkAll parts + 1
  | .iface _ d => uptoBulk d + 1
  | .map entries => uptoBulkEntries entries + 1
  | .held _ => 1
def uptoBulkAll {H : Type} : List (DataW H) → Nat
  | [] => 0
  | d :: r => uptoBulk d + uptoBulkAll r
def uptoBulkEntries {H : Type} : List (Lit × DataW H) → Nat
  | [] => 0
  | x :: r => uptoBulkEntry x + uptoBulkEntries r
def uptoBulkEntry {H : Type} : Lit × DataW H → Nat
  | (.string bytes, d) => bytes.length + uptoBulk d + 1
  | (_, d) => uptoBulk d + 1
 end
def uptoSmall : (H : Type) → List (DataW H) → Bool := fun _ ds => decide (uptoBulkAll ds ≤ 1048576)
def OpenSpec.upto (s : _root_.Go.ChangeSpec) : _root_.Go.OpenSpec := { _root_.Go.OpenSpec.ofChange s with cond := some uptoSmall }

/-- 'laws.FnFewestStamps', WHERE WHAT IT READS IS OF BULK AT MOST 1048576: true; the input reads as it did. -/
def fnFewestStampsUptoRow : OpenClaim := { program := "ytookdmdlpglbcab", sum := "fa23c5cddd3500a103acc4bddcc9213bf65117bb6a3f204206ee0ba471709876", func := "loop.example/lettersthatarrive/laws.FnFewestStamps", spec := "fnFewestStamps", unfollowed := true, recurses := true, apart := false, narrowed := true }
def FnFewestStampsUptoSaid : Prop := fnFewestStampsUptoRow.holds Try.pinned (OpenSpec.upto fnFewestStampsSpec)

/-- 'laws.FnGreedyStamps', WHERE WHAT IT READS IS OF BULK AT MOST 1048576: true; the input reads as it did. -/
def fnGreedyStampsUptoRow : OpenClaim := { program := "ytookdmdlpglbcab", sum := "fa23c5cddd3500a103acc4bddcc9213bf65117bb6a3f204206ee0ba471709876", func := "loop.example/lettersthatarrive/laws.FnGreedyStamps", spec := "fnGreedyStamps", unfollowed := true, recurses := true, apart := false, narrowed := true }
def FnGreedyStampsUptoSaid : Prop := fnGreedyStampsUptoRow.holds Try.pinned (OpenSpec.upto fnGreedyStampsSpec)

/-- 'laws.FnFirstWaste', WHERE WHAT IT READS IS OF BULK AT MOST 1048576: true; the input reads as it did. -/
def fnFirstWasteUptoRow : OpenClaim := { program := "ytookdmdlpglbcab", sum := "fa23c5cddd3500a103acc4bddcc9213bf65117bb6a3f204206ee0ba471709876", func := "loop.example/lettersthatarrive/laws.FnFirstWaste", spec := "fnFirstWaste", unfollowed := true, recurses := true, apart := false, narrowed := true }
def FnFirstWasteUptoSaid : Prop := fnFirstWasteUptoRow.holds Try.pinned (OpenSpec.upto fnFirstWasteSpec)

/-- 'laws.FnReachOf', WHERE WHAT IT READS IS OF BULK AT MOST 1048576: true; the input reads as it did. -/
def fnReachOfUptoRow : OpenClaim := { program := "ytookdmdlpglbcab", sum := "fa23c5cddd3500a103acc4bddcc9213bf65117bb6a3f204206ee0ba471709876", func := "loop.example/lettersthatarrive/laws.FnReachOf", spec := "fnReachOf", unfollowed := true, recurses := true, apart := false, narrowed := true }
def FnReachOfUptoSaid : Prop := fnReachOfUptoRow.holds Try.pinned (OpenSpec.upto fnReachOfSpec)

/-- 'laws.FnBestPair', WHERE WHAT IT READS IS OF BULK AT MOST 1048576: true; the input reads as it did. -/
def fnBestPairUptoRow : OpenClaim := { program := "ytookdmdlpglbcab", sum := "fa23c5cddd3500a103acc4bddcc9213bf65117bb6a3f204206ee0ba471709876", func := "loop.example/lettersthatarrive/laws.FnBestPair", spec := "fnBestPair", unfollowed := true, recurses := true, apart := false, narrowed := true }
def FnBestPairUptoSaid : Prop := fnBestPairUptoRow.holds Try.pinned (OpenSpec.upto fnBestPairSpec)

/-- 'laws.FnNotPaid', WHERE WHAT IT READS IS OF BULK AT MOST 1048576: true; the input reads as it did. -/
def fnNotPaidUptoRow : OpenClaim := { program := "ytookdmdlpglbcab", sum := "fa23c5cddd3500a103acc4bddcc9213bf65117bb6a3f204206ee0ba471709876", func := "loop.example/lettersthatarrive/laws.FnNotPaid", spec := "fnNotPaid", unfollowed := true, recurses := true, apart := false, narrowed := true }
def FnNotPaidUptoSaid : Prop := fnNotPaidUptoRow.holds Try.pinned (OpenSpec.upto fnNotPaidSpec)

/-- 'laws.FnStampsScale', WHERE WHAT IT READS IS OF BULK AT MOST 1048576: true; the input reads as it did. -/
def fnStampsScaleUptoRow : OpenClaim := { program := "ytookdmdlpglbcab", sum := "fa23c5cddd3500a103acc4bddcc9213bf65117bb6a3f204206ee0ba471709876", func := "loop.example/lettersthatarrive/laws.FnStampsScale", spec := "fnStampsScale", unfollowed := true, recurses := true, apart := false, narrowed := true }
def FnStampsScaleUptoSaid : Prop := fnStampsScaleUptoRow.holds Try.pinned (OpenSpec.upto fnStampsScaleSpec)

/-- 'laws.FnMoreKindsAreFewer', WHERE WHAT IT READS IS OF BULK AT MOST 1048576: true; the input reads as it did. -/
def fnMoreKindsAreFewerUptoRow : OpenClaim := { program := "ytookdmdlpglbcab", sum := "fa23c5cddd3500a103acc4bddcc9213bf65117bb6a3f204206ee0ba471709876", func := "loop.example/lettersthatarrive/laws.FnMoreKindsAreFewer", spec := "fnMoreKindsAreFewer", unfollowed := true, recurses := true, apart := false, narrowed := true }
def FnMoreKindsAreFewerUptoSaid : Prop := fnMoreKindsAreFewerUptoRow.holds Try.pinned (OpenSpec.upto fnMoreKindsAreFewerSpec)

end Rows
end Go.Proofs.Ytookdmdlpglbcab
