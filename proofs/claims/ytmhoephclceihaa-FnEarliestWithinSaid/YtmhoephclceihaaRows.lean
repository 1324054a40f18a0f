/-
  No cell of these rows narrows 'for every input' (looked for: loops, veiled, ifaces, maps, wideKeys, modest, calm, conditions, laid).
  DERIVED. THE GIVEN ROWS OF THIS SEAT. 12 by the template 'for every input the law returns true; each argument reads behind the call as it read before'; 0 by the template 'total and deterministic' (their statements: YtmhoephclceihaaTotals.lean).
  GIVEN WITH THE SEED: the statements are not yours to turn. If you find one false, say at which input.
  Laid BY PROGRAM, IN A SANDBOX (cutbox-rows.mjs): the forced cells as the released guide's own fill.sh prints them over the translation 87676ea9cfa9fb76… (all of the seat's roots in one cut). By AI agents, Wed Nov 11 2026. No macro, syntax, notation, axiom, sorry.
-/
import Derived.Test.YtmhoephclceihaaChecked
import GoSem.Claim
import GoSem.ClaimJoined
import GoSem.ClaimMapViews
import Derived.JoinedTies
import Derived.KernelRfl
namespace Go.Proofs.Ytmhoephclceihaa
/- THE CELL 'sum', in the pinned program and in every row, IS THE sha256 OF THE DUMP (.gsa) THAT YtmhoephclceihaaProg.lean LOADS. Nothing in Lean hashes anything: it is a label: what it is worth is what the hold of that sum in a sandbox is worth. -/
noncomputable def Try.pinned : Pinned := { name := "ytmhoephclceihaa", sum := "87676ea9cfa9fb76c8ef8ded520ea074d73a6bb617593d8ef7b104992071e294", checked := Try.checked }
namespace Rows
def none {H : Type} : Left H := { results := [], args := [] }

/-- 'laws.FnExactValidCoaches': WHATEVER THE INPUT: true; the input reads as it did. -/
def fnExactValidCoachesSpec : ChangeSpec := { name := "fnExactValidCoaches", fn := fun _ => fun
  | [d] => { results := [.lit (.bool true)], args := [d] }
  | _ => none }
def fnExactValidCoachesRow : OpenClaim := { program := "ytmhoephclceihaa", sum := "87676ea9cfa9fb76c8ef8ded520ea074d73a6bb617593d8ef7b104992071e294", func := "loop.example/lettersthatarrive/laws.FnExactValidCoaches", spec := "fnExactValidCoaches", apart := false }
def FnExactValidCoachesSaid : Prop := fnExactValidCoachesRow.holds Try.pinned (OpenSpec.ofChange fnExactValidCoachesSpec)

/-- ITS FALSE NEIGHBOUR: 'it returns false'. Refute it at one input. -/
def fnExactValidCoachesWrong : ChangeSpec := { name := "fnExactValidCoaches", fn := fun _ => fun
  | [d] => { results := [.lit (.bool false)], args := [d] }
  | _ => none }
def FnExactValidCoachesWrongFalsely : Prop := fnExactValidCoachesRow.holds Try.pinned (OpenSpec.ofChange fnExactValidCoachesWrong)

/-- 'laws.FnExactEarliestFrom': WHATEVER THE INPUT: true; the input reads as it did. -/
def fnExactEarliestFromSpec : ChangeSpec := { name := "fnExactEarliestFrom", fn := fun _ => fun
  | [d1, d2, d3] => { results := [.lit (.bool true)], args := [d1, d2, d3] }
  | _ => none }
def fnExactEarliestFromRow : OpenClaim := { program := "ytmhoephclceihaa", sum := "87676ea9cfa9fb76c8ef8ded520ea074d73a6bb617593d8ef7b104992071e294", func := "loop.example/lettersthatarrive/laws.FnExactEarliestFrom", spec := "fnExactEarliestFrom", unfollowed := true, recurses := true, apart := false }
def FnExactEarliestFromSaid : Prop := fnExactEarliestFromRow.holds Try.pinned (OpenSpec.ofChange fnExactEarliestFromSpec)

/-- ITS FALSE NEIGHBOUR: 'it returns false'. Refute it at one input. -/
def fnExactEarliestFromWrong : ChangeSpec := { name := "fnExactEarliestFrom", fn := fun _ => fun
  | [d1, d2, d3] => { results := [.lit (.bool false)], args := [d1, d2, d3] }
  | _ => none }
def FnExactEarliestFromWrongFalsely : Prop := fnExactEarliestFromRow.holds Try.pinned (OpenSpec.ofChange fnExactEarliestFromWrong)

/-- 'laws.FnExactEarliestWithin': WHATEVER THE INPUT: true; the input reads as it did. -/
def fnExactEarliestWithinSpec : ChangeSpec := { name := "fnExactEarliestWithin", fn := fun _ => fun
  | [d1, d2, d3, d4] => { results := [.lit (.bool true)], args := [d1, d2, d3, d4] }
  | _ => none }
def fnExactEarliestWithinRow : OpenClaim := { program := "ytmhoephclceihaa", sum := "87676ea9cfa9fb76c8ef8ded520ea074d73a6bb617593d8ef7b104992071e294", func := "loop.example/lettersthatarrive/laws.FnExactEarliestWithin", spec := "fnExactEarliestWithin", unfollowed := true, recurses := true, apart := false }
def FnExactEarliestWithinSaid : Prop := fnExactEarliestWithinRow.holds Try.pinned (OpenSpec.ofChange fnExactEarliestWithinSpec)

/-- ITS FALSE NEIGHBOUR: 'it returns false'. Refute it at one input. -/
def fnExactEarliestWithinWrong : ChangeSpec := { name := "fnExactEarliestWithin", fn := fun _ => fun
  | [d1, d2, d3, d4] => { results := [.lit (.bool false)], args := [d1, d2, d3, d4] }
  | _ => none }
def FnExactEarliestWithinWrongFalsely : Prop := fnExactEarliestWithinRow.holds Try.pinned (OpenSpec.ofChange fnExactEarliestWithinWrong)

/-- 'laws.FnExactLatestTo': WHATEVER THE INPUT: true; the input reads as it did. -/
def fnExactLatestToSpec : ChangeSpec := { name := "fnExactLatestTo", fn := fun _ => fun
  | [d1, d2, d3] => { results := [.lit (.bool true)], args := [d1, d2, d3] }
  | _ => none }
def fnExactLatestToRow : OpenClaim := { program := "ytmhoephclceihaa", sum := "87676ea9cfa9fb76c8ef8ded520ea074d73a6bb617593d8ef7b104992071e294", func := "loop.example/lettersthatarrive/laws.FnExactLatestTo", spec := "fnExactLatestTo", unfollowed := true, recurses := true, apart := false }
def FnExactLatestToSaid : Prop := fnExactLatestToRow.holds Try.pinned (OpenSpec.ofChange fnExactLatestToSpec)

/-- ITS FALSE NEIGHBOUR: 'it returns false'. Refute it at one input. -/
def fnExactLatestToWrong : ChangeSpec := { name := "fnExactLatestTo", fn := fun _ => fun
  | [d1, d2, d3] => { results := [.lit (.bool false)], args := [d1, d2, d3] }
  | _ => none }
def FnExactLatestToWrongFalsely : Prop := fnExactLatestToRow.holds Try.pinned (OpenSpec.ofChange fnExactLatestToWrong)

/-- 'laws.FnExactFewestRides': WHATEVER THE INPUT: true; the input reads as it did. -/
def fnExactFewestRidesSpec : ChangeSpec := { name := "fnExactFewestRides", fn := fun _ => fun
  | [d1, d2, d3, d4] => { results := [.lit (.bool true)], args := [d1, d2, d3, d4] }
  | _ => none }
def fnExactFewestRidesRow : OpenClaim := { program := "ytmhoephclceihaa", sum := "87676ea9cfa9fb76c8ef8ded520ea074d73a6bb617593d8ef7b104992071e294", func := "loop.example/lettersthatarrive/laws.FnExactFewestRides", spec := "fnExactFewestRides", unfollowed := true, recurses := true, apart := false }
def FnExactFewestRidesSaid : Prop := fnExactFewestRidesRow.holds Try.pinned (OpenSpec.ofChange fnExactFewestRidesSpec)

/-- ITS FALSE NEIGHBOUR: 'it returns false'. Refute it at one input. -/
def fnExactFewestRidesWrong : ChangeSpec := { name := "fnExactFewestRides", fn := fun _ => fun
  | [d1, d2, d3, d4] => { results := [.lit (.bool false)], args := [d1, d2, d3, d4] }
  | _ => none }
def FnExactFewestRidesWrongFalsely : Prop := fnExactFewestRidesRow.holds Try.pinned (OpenSpec.ofChange fnExactFewestRidesWrong)

/-- 'laws.FnValidCoaches': WHATEVER THE INPUT: true; the input reads as it did. -/
def fnValidCoachesSpec : ChangeSpec := { name := "fnValidCoaches", fn := fun _ => fun
  | [d] => { results := [.lit (.bool true)], args := [d] }
  | _ => none }
def fnValidCoachesRow : OpenClaim := { program := "ytmhoephclceihaa", sum := "87676ea9cfa9fb76c8ef8ded520ea074d73a6bb617593d8ef7b104992071e294", func := "loop.example/lettersthatarrive/laws.FnValidCoaches", spec := "fnValidCoaches", apart := false }
def FnValidCoachesSaid : Prop := fnValidCoachesRow.holds Try.pinned (OpenSpec.ofChange fnValidCoachesSpec)

/-- ITS FALSE NEIGHBOUR: 'it returns false'. Refute it at one input. -/
def fnValidCoachesWrong : ChangeSpec := { name := "fnValidCoaches", fn := fun _ => fun
  | [d] => { results := [.lit (.bool false)], args := [d] }
  | _ => none }
def FnValidCoachesWrongFalsely : Prop := fnValidCoachesRow.holds Try.pinned (OpenSpec.ofChange fnValidCoachesWrong)

/-- 'laws.FnEarliestFrom': WHATEVER THE INPUT: true; the input reads as it did. -/
def fnEarliestFromSpec : ChangeSpec := { name := "fnEarliestFrom", fn := fun _ => fun
  | [d] => { results := [.lit (.bool true)], args := [d] }
  | _ => none }
def fnEarliestFromRow : OpenClaim := { program := "ytmhoephclceihaa", sum := "87676ea9cfa9fb76c8ef8ded520ea074d73a6bb617593d8ef7b104992071e294", func := "loop.example/lettersthatarrive/laws.FnEarliestFrom", spec := "fnEarliestFrom", unfollowed := true, recurses := true, apart := false }
def FnEarliestFromSaid : Prop := fnEarliestFromRow.holds Try.pinned (OpenSpec.ofChange fnEarliestFromSpec)

/-- ITS FALSE NEIGHBOUR: 'it returns false'. Refute it at one input. -/
def fnEarliestFromWrong : ChangeSpec := { name := "fnEarliestFrom", fn := fun _ => fun
  | [d] => { results := [.lit (.bool false)], args := [d] }
  | _ => none }
def FnEarliestFromWrongFalsely : Prop := fnEarliestFromRow.holds Try.pinned (OpenSpec.ofChange fnEarliestFromWrong)

/-- 'laws.FnEarliestWithin': WHATEVER THE INPUT: true; the input reads as it did. -/
def fnEarliestWithinSpec : ChangeSpec := { name := "fnEarliestWithin", fn := fun _ => fun
  | [d] => { results := [.lit (.bool true)], args := [d] }
  | _ => none }
def fnEarliestWithinRow : OpenClaim := { program := "ytmhoephclceihaa", sum := "87676ea9cfa9fb76c8ef8ded520ea074d73a6bb617593d8ef7b104992071e294", func := "loop.example/lettersthatarrive/laws.FnEarliestWithin", spec := "fnEarliestWithin", unfollowed := true, recurses := true, apart := false }
def FnEarliestWithinSaid : Prop := fnEarliestWithinRow.holds Try.pinned (OpenSpec.ofChange fnEarliestWithinSpec)

/-- ITS FALSE NEIGHBOUR: 'it returns false'. Refute it at one input. -/
def fnEarliestWithinWrong : ChangeSpec := { name := "fnEarliestWithin", fn := fun _ => fun
  | [d] => { results := [.lit (.bool false)], args := [d] }
  | _ => none }
def FnEarliestWithinWrongFalsely : Prop := fnEarliestWithinRow.holds Try.pinned (OpenSpec.ofChange fnEarliestWithinWrong)

/-- 'laws.FnLatestTo': WHATEVER THE INPUT: true; the input reads as it did. -/
def fnLatestToSpec : ChangeSpec := { name := "fnLatestTo", fn := fun _ => fun
  | [d] => { results := [.lit (.bool true)], args := [d] }
  | _ => none }
def fnLatestToRow : OpenClaim := { program := "ytmhoephclceihaa", sum := "87676ea9cfa9fb76c8ef8ded520ea074d73a6bb617593d8ef7b104992071e294", func := "loop.example/lettersthatarrive/laws.FnLatestTo", spec := "fnLatestTo", unfollowed := true, recurses := true, apart := false }
def FnLatestToSaid : Prop := fnLatestToRow.holds Try.pinned (OpenSpec.ofChange fnLatestToSpec)

/-- ITS FALSE NEIGHBOUR: 'it returns false'. Refute it at one input. -/
def fnLatestToWrong : ChangeSpec := { name := "fnLatestTo", fn := fun _ => fun
  | [d] => { results := [.lit (.bool false)], args := [d] }
  | _ => none }
def FnLatestToWrongFalsely : Prop := fnLatestToRow.holds Try.pinned (OpenSpec.ofChange fnLatestToWrong)

/-- 'laws.FnFewestRides': WHATEVER THE INPUT: true; the input reads as it did. -/
def fnFewestRidesSpec : ChangeSpec := { name := "fnFewestRides", fn := fun _ => fun
  | [d] => { results := [.lit (.bool true)], args := [d] }
  | _ => none }
def fnFewestRidesRow : OpenClaim := { program := "ytmhoephclceihaa", sum := "87676ea9cfa9fb76c8ef8ded520ea074d73a6bb617593d8ef7b104992071e294", func := "loop.example/lettersthatarrive/laws.FnFewestRides", spec := "fnFewestRides", unfollowed := true, recurses := true, apart := false }
def FnFewestRidesSaid : Prop := fnFewestRidesRow.holds Try.pinned (OpenSpec.ofChange fnFewestRidesSpec)

/-- ITS FALSE NEIGHBOUR: 'it returns false'. Refute it at one input. -/
def fnFewestRidesWrong : ChangeSpec := { name := "fnFewestRides", fn := fun _ => fun
  | [d] => { results := [.lit (.bool false)], args := [d] }
  | _ => none }
def FnFewestRidesWrongFalsely : Prop := fnFewestRidesRow.holds Try.pinned (OpenSpec.ofChange fnFewestRidesWrong)

/-- 'laws.FnCoachesAreOptional': WHATEVER THE INPUT: true; the input reads as it did. -/
def fnCoachesAreOptionalSpec : ChangeSpec := { name := "fnCoachesAreOptional", fn := fun _ => fun
  | [d] => { results := [.lit (.bool true)], args := [d] }
  | _ => none }
def fnCoachesAreOptionalRow : OpenClaim := { program := "ytmhoephclceihaa", sum := "87676ea9cfa9fb76c8ef8ded520ea074d73a6bb617593d8ef7b104992071e294", func := "loop.example/lettersthatarrive/laws.FnCoachesAreOptional", spec := "fnCoachesAreOptional", unfollowed := true, recurses := true, apart := false }
def FnCoachesAreOptionalSaid : Prop := fnCoachesAreOptionalRow.holds Try.pinned (OpenSpec.ofChange fnCoachesAreOptionalSpec)

/-- ITS FALSE NEIGHBOUR: 'it returns false'. Refute it at one input. -/
def fnCoachesAreOptionalWrong : ChangeSpec := { name := "fnCoachesAreOptional", fn := fun _ => fun
  | [d] => { results := [.lit (.bool false)], args := [d] }
  | _ => none }
def FnCoachesAreOptionalWrongFalsely : Prop := fnCoachesAreOptionalRow.holds Try.pinned (OpenSpec.ofChange fnCoachesAreOptionalWrong)

/-- 'laws.FnWaitingIsFree': WHATEVER THE INPUT: true; the input reads as it did. -/
def fnWaitingIsFreeSpec : ChangeSpec := { name := "fnWaitingIsFree", fn := fun _ => fun
  | [d] => { results := [.lit (.bool true)], args := [d] }
  | _ => none }
def fnWaitingIsFreeRow : OpenClaim := { program := "ytmhoephclceihaa", sum := "87676ea9cfa9fb76c8ef8ded520ea074d73a6bb617593d8ef7b104992071e294", func := "loop.example/lettersthatarrive/laws.FnWaitingIsFree", spec := "fnWaitingIsFree", unfollowed := true, recurses := true, apart := false }
def FnWaitingIsFreeSaid : Prop := fnWaitingIsFreeRow.holds Try.pinned (OpenSpec.ofChange fnWaitingIsFreeSpec)

/-- ITS FALSE NEIGHBOUR: 'it returns false'. Refute it at one input. -/
def fnWaitingIsFreeWrong : ChangeSpec := { name := "fnWaitingIsFree", fn := fun _ => fun
  | [d] => { results := [.lit (.bool false)], args := [d] }
  | _ => none }
def FnWaitingIsFreeWrongFalsely : Prop := fnWaitingIsFreeRow.holds Try.pinned (OpenSpec.ofChange fnWaitingIsFreeWrong)

/- THE SECOND FORM. 'bulk': how many values and letters a reading holds, each counted each time it is reached (what is shared counts as often as it is met; a slice's spare places count too). A statement '..UptoSaid' is the law's where the arguments, and the package variables that the reading takes, are together of bulk at most 1048576: NARROWER than '..Said'. Prove '..Said' where nothing that the law and all that it calls make is longer than what came in: it says more and counts as full. Else prove '..UptoSaid'. A law counts once. -/
mutual
def uptoBulk {H : Type} : DataW H → Nat
  | .lit (.string bytes) => bytes.length + 1
  | .lit _ => 1
  | .nil => 1
  | .ptr d => uptoBulk d + 1
  | .slice elems spare => uptoBulkAll elems + uptoBulkAll spare + 1
  | .agg parts => uptoBulkAll parts + 1
  | .iface _ d => uptoBulk d + 1
  | .map entries => uptoBulkEntries entries + 1
  | .held _ => 1
def uptoBulkAll {H : Type} : List (DataW H) → Nat
  | [] => 0
  | d :: r => uptoBulk d + uptoBulkAll r
def uptoBulkEntries {H : Type} : List (Lit × DataW H) → Nat
  | [] => 0
  | x :: r => uptoBulkEntry x + uptoBulkEntries r
def uptoBulkEntry {H : Type} : Lit × DataW H → Nat
  | (.string bytes, d) => bytes.length + uptoBulk d + 1
  | (_, d) => uptoBulk d + 1
 end
def uptoSmall : (H : Type) → List (DataW H) → Bool := fun _ ds => decide (uptoBulkAll ds ≤ 1048576)
def OpenSpec.upto (s : _root_.Go.ChangeSpec) : _root_.Go.OpenSpec := { _root_.Go.OpenSpec.ofChange s with cond := some uptoSmall }

/-- 'laws.FnExactValidCoaches', WHERE WHAT IT READS IS OF BULK AT MOST 1048576: true; the input reads as it did. -/
def fnExactValidCoachesUptoRow : OpenClaim := { program := "ytmhoephclceihaa", sum := "87676ea9cfa9fb76c8ef8ded520ea074d73a6bb617593d8ef7b104992071e294", func := "loop.example/lettersthatarrive/laws.FnExactValidCoaches", spec := "fnExactValidCoaches", apart := false, narrowed := true }
def FnExactValidCoachesUptoSaid : Prop := fnExactValidCoachesUptoRow.holds Try.pinned (OpenSpec.upto fnExactValidCoachesSpec)

/-- 'laws.FnExactEarliestFrom', WHERE WHAT IT READS IS OF BULK AT MOST 1048576: true; the input reads as it did. -/
def fnExactEarliestFromUptoRow : OpenClaim := { program := "ytmhoephclceihaa", sum := "87676ea9cfa9fb76c8ef8ded520ea074d73a6bb617593d8ef7b104992071e294", func := "loop.example/lettersthatarrive/laws.FnExactEarliestFrom", spec := "fnExactEarliestFrom", unfollowed := true, recurses := true, apart := false, narrowed := true }
def FnExactEarliestFromUptoSaid : Prop := fnExactEarliestFromUptoRow.holds Try.pinned (OpenSpec.upto fnExactEarliestFromSpec)

/-- 'laws.FnExactEarliestWithin', WHERE WHAT IT READS IS OF BULK AT MOST 1048576: true; the input reads as it did. -/
def fnExactEarliestWithinUptoRow : OpenClaim := { program := "ytmhoephclceihaa", sum := "87676ea9cfa9fb76c8ef8ded520ea074d73a6bb617593d8ef7b104992071e294", func := "loop.example/lettersthatarrive/laws.FnExactEarliestWithin", spec := "fnExactEarliestWithin", unfollowed := true, recurses := true, apart := false, narrowed := true }
def FnExactEarliestWithinUptoSaid : Prop := fnExactEarliestWithinUptoRow.holds Try.pinned (OpenSpec.upto fnExactEarliestWithinSpec)

/-- 'laws.FnExactLatestTo', WHERE WHAT IT READS IS OF BULK AT MOST 1048576: true; the input reads as it did. -/
def fnExactLatestToUptoRow : OpenClaim := { program := "ytmhoephclceihaa", sum := "87676ea9cfa9fb76c8ef8ded520ea074d73a6bb617593d8ef7b104992071e294", func := "loop.example/lettersthatarrive/laws.FnExactLatestTo", spec := "fnExactLatestTo", unfollowed := true, recurses := true, apart := false, narrowed := true }
def FnExactLatestToUptoSaid : Prop := fnExactLatestToUptoRow.holds Try.pinned (OpenSpec.upto fnExactLatestToSpec)

/-- 'laws.FnExactFewestRides', WHERE WHAT IT READS IS OF BULK AT MOST 1048576: true; the input reads as it did. -/
def fnExactFewestRidesUptoRow : OpenClaim := { program := "ytmhoephclceihaa", sum := "87676ea9cfa9fb76c8ef8ded520ea074d73a6bb617593d8ef7b104992071e294", func := "loop.example/lettersthatarrive/laws.FnExactFewestRides", spec := "fnExactFewestRides", unfollowed := true, recurses := true, apart := false, narrowed := true }
def FnExactFewestRidesUptoSaid : Prop := fnExactFewestRidesUptoRow.holds Try.pinned (OpenSpec.upto fnExactFewestRidesSpec)

/-- 'laws.FnValidCoaches', WHERE WHAT IT READS IS OF BULK AT MOST 1048576: true; the input reads as it did. -/
def fnValidCoachesUptoRow : OpenClaim := { program := "ytmhoephclceihaa", sum := "87676ea9cfa9fb76c8ef8ded520ea074d73a6bb617593d8ef7b104992071e294", func := "loop.example/lettersthatarrive/laws.FnValidCoaches", spec := "fnValidCoaches", apart := false, narrowed := true }
def FnValidCoachesUptoSaid : Prop := fnValidCoachesUptoRow.holds Try.pinned (OpenSpec.upto fnValidCoachesSpec)

/-- 'laws.FnEarliestFrom', WHERE WHAT IT READS IS OF BULK AT MOST 1048576: true; the input reads as it did. -/
def fnEarliestFromUptoRow : OpenClaim := { program := "ytmhoephclceihaa", sum := "87676ea9cfa9fb76c8ef8ded520ea074d73a6bb617593d8ef7b104992071e294", func := "loop.example/lettersthatarrive/laws.FnEarliestFrom", spec := "fnEarliestFrom", unfollowed := true, recurses := true, apart := false, narrowed := true }
def FnEarliestFromUptoSaid : Prop := fnEarliestFromUptoRow.holds Try.pinned (OpenSpec.upto fnEarliestFromSpec)

/-- 'laws.FnEarliestWithin', WHERE WHAT IT READS IS OF BULK AT MOST 1048576: true; the input reads as it did. -/
def fnEarliestWithinUptoRow : OpenClaim := { program := "ytmhoephclceihaa", sum := "87676ea9cfa9fb76c8ef8ded520ea074d73a6bb617593d8ef7b104992071e294", func := "loop.example/lettersthatarrive/laws.FnEarliestWithin", spec := "fnEarliestWithin", unfollowed := true, recurses := true, apart := false, narrowed := true }
def FnEarliestWithinUptoSaid : Prop := fnEarliestWithinUptoRow.holds Try.pinned (OpenSpec.upto fnEarliestWithinSpec)

/-- 'laws.FnLatestTo', WHERE WHAT IT READS IS OF BULK AT MOST 1048576: true; the input reads as it did. -/
def fnLatestToUptoRow : OpenClaim := { program := "ytmhoephclceihaa", sum := "87676ea9cfa9fb76c8ef8ded520ea074d73a6bb617593d8ef7b104992071e294", func := "loop.example/lettersthatarrive/laws.FnLatestTo", spec := "fnLatestTo", unfollowed := true, recurses := true, apart := false, narrowed := true }
def FnLatestToUptoSaid : Prop := fnLatestToUptoRow.holds Try.pinned (OpenSpec.upto fnLatestToSpec)

/-- 'laws.FnFewestRides', WHERE WHAT IT READS IS OF BULK AT MOST 1048576: true; the input reads as it did. -/
def fnFewestRidesUptoRow : OpenClaim := { program := "ytmhoephclceihaa", sum := "87676ea9cfa9fb76c8ef8ded520ea074d73a6bb617593d8ef7b104992071e294", func := "loop.example/lettersthatarrive/laws.FnFewestRides", spec := "fnFewestRides", unfollowed := true, recurses := true, apart := false, narrowed := true }
def FnFewestRidesUptoSaid : Prop := fnFewestRidesUptoRow.holds Try.pinned (OpenSpec.upto fnFewestRidesSpec)

/-- 'laws.FnCoachesAreOptional', WHERE WHAT IT READS IS OF BULK AT MOST 1048576: true; the input reads as it did. -/
def fnCoachesAreOptionalUptoRow : OpenClaim := { program := "ytmhoephclceihaa", sum := "87676ea9cfa9fb76c8ef8ded520ea074d73a6bb617593d8ef7b104992071e294", func := "loop.example/lettersthatarrive/laws.FnCoachesAreOptional", spec := "fnCoachesAreOptional", unfollowed := true, recurses := true, apart := false, narrowed := true }
def FnCoachesAreOptionalUptoSaid : Prop := fnCoachesAreOptionalUptoRow.holds Try.pinned (OpenSpec.upto fnCoachesAreOptionalSpec)

/-- 'laws.FnWaitingIsFree', WHERE WHAT IT READS IS OF BULK AT MOST 1048576: true; the input reads as it did. -/
def fnWaitingIsFreeUptoRow : OpenClaim := { program := "ytmhoephclceihaa", sum := "87676ea9cfa9fb76c8ef8ded520ea074d73a6bb617593d8ef7b104992071e294", func := "loop.example/lettersthatarrive/laws.FnWaitingIsFree", spec := "fnWaitingIsFree", unfollowed := true, recurses := true, apart := false, narrowed := true }
def FnWaitingIsFreeUptoSaid : Prop := fnWaitingIsFreeUptoRow.holds Try.pinned (OpenSpec.upto fnWaitingIsFreeSpec)

end Rows
end Go.Proofs.Ytmhoephclceihaa
