/-
  No cell of these rows narrows 'for every input' (looked for: loops, veiled, ifaces, maps, wideKeys, modest, calm, conditions, laid).
  DERIVED. THE GIVEN ROWS OF THIS SEAT. 11 by the template 'for every input the law returns true; each argument reads behind the call as it read before'; 0 by the template 'total and deterministic' (their statements: YtonnffilcmlodaaTotals.lean).
  GIVEN WITH THE SEED: the statements are not yours to turn. If you find one false, say at which input.
  Laid BY PROGRAM, IN A SANDBOX (cutbox-rows.mjs): the forced cells as the released guide's own fill.sh prints them over the translation 45bbb0ad2bbeb185… (all of the seat's roots in one cut). By AI agents, Wed Nov 11 2026. No macro, syntax, notation, axiom, sorry.
-/
import Derived.Test.YtonnffilcmlodaaChecked
import GoSem.Claim
import GoSem.ClaimJoined
import GoSem.ClaimMapViews
import Derived.JoinedTies
import Derived.KernelRfl
namespace Go.Proofs.Ytonnffilcmlodaa
/- THE CELL 'sum', in the pinned program and in every row, IS THE sha256 OF THE DUMP (.gsa) THAT YtonnffilcmlodaaProg.lean LOADS. Nothing in Lean hashes anything: it is a label: what it is worth is what the hold of that sum in a sandbox is worth. -/
noncomputable def Try.pinned : Pinned := { name := "ytonnffilcmlodaa", sum := "45bbb0ad2bbeb185a4d5576579eeb5c46c3db9dc3a014fcdb57e12d7d98942d1", checked := Try.checked }
namespace Rows
def none {H : Type} : Left H := { results := [], args := [] }

/-- 'laws.FnValidCalls': WHATEVER THE INPUT: true; the input reads as it did. -/
def fnValidCallsSpec : ChangeSpec := { name := "fnValidCalls", fn := fun _ => fun
  | [d] => { results := [.lit (.bool true)], args := [d] }
  | _ => none }
def fnValidCallsRow : OpenClaim := { program := "ytonnffilcmlodaa", sum := "45bbb0ad2bbeb185a4d5576579eeb5c46c3db9dc3a014fcdb57e12d7d98942d1", func := "loop.example/lettersthatarrive/laws.FnValidCalls", spec := "fnValidCalls", apart := false }
def FnValidCallsSaid : Prop := fnValidCallsRow.holds Try.pinned (OpenSpec.ofChange fnValidCallsSpec)

/-- ITS FALSE NEIGHBOUR: 'it returns false'. Refute it at one input. -/
def fnValidCallsWrong : ChangeSpec := { name := "fnValidCalls", fn := fun _ => fun
  | [d] => { results := [.lit (.bool false)], args := [d] }
  | _ => none }
def FnValidCallsWrongFalsely : Prop := fnValidCallsRow.holds Try.pinned (OpenSpec.ofChange fnValidCallsWrong)

/-- 'laws.FnKnownAfter': WHATEVER THE INPUT: true; the input reads as it did. -/
def fnKnownAfterSpec : ChangeSpec := { name := "fnKnownAfter", fn := fun _ => fun
  | [d] => { results := [.lit (.bool true)], args := [d] }
  | _ => none }
def fnKnownAfterRow : OpenClaim := { program := "ytonnffilcmlodaa", sum := "45bbb0ad2bbeb185a4d5576579eeb5c46c3db9dc3a014fcdb57e12d7d98942d1", func := "loop.example/lettersthatarrive/laws.FnKnownAfter", spec := "fnKnownAfter", apart := false }
def FnKnownAfterSaid : Prop := fnKnownAfterRow.holds Try.pinned (OpenSpec.ofChange fnKnownAfterSpec)

/-- ITS FALSE NEIGHBOUR: 'it returns false'. Refute it at one input. -/
def fnKnownAfterWrong : ChangeSpec := { name := "fnKnownAfter", fn := fun _ => fun
  | [d] => { results := [.lit (.bool false)], args := [d] }
  | _ => none }
def FnKnownAfterWrongFalsely : Prop := fnKnownAfterRow.holds Try.pinned (OpenSpec.ofChange fnKnownAfterWrong)

/-- 'laws.FnCallsFor': WHATEVER THE INPUT: true; the input reads as it did. -/
def fnCallsForSpec : ChangeSpec := { name := "fnCallsFor", fn := fun _ => fun
  | [d] => { results := [.lit (.bool true)], args := [d] }
  | _ => none }
def fnCallsForRow : OpenClaim := { program := "ytonnffilcmlodaa", sum := "45bbb0ad2bbeb185a4d5576579eeb5c46c3db9dc3a014fcdb57e12d7d98942d1", func := "loop.example/lettersthatarrive/laws.FnCallsFor", spec := "fnCallsFor", apart := false }
def FnCallsForSaid : Prop := fnCallsForRow.holds Try.pinned (OpenSpec.ofChange fnCallsForSpec)

/-- ITS FALSE NEIGHBOUR: 'it returns false'. Refute it at one input. -/
def fnCallsForWrong : ChangeSpec := { name := "fnCallsFor", fn := fun _ => fun
  | [d] => { results := [.lit (.bool false)], args := [d] }
  | _ => none }
def FnCallsForWrongFalsely : Prop := fnCallsForRow.holds Try.pinned (OpenSpec.ofChange fnCallsForWrong)

/-- 'laws.FnFewestCalls': WHATEVER THE INPUT: true; the input reads as it did. -/
def fnFewestCallsSpec : ChangeSpec := { name := "fnFewestCalls", fn := fun _ => fun
  | [d] => { results := [.lit (.bool true)], args := [d] }
  | _ => none }
def fnFewestCallsRow : OpenClaim := { program := "ytonnffilcmlodaa", sum := "45bbb0ad2bbeb185a4d5576579eeb5c46c3db9dc3a014fcdb57e12d7d98942d1", func := "loop.example/lettersthatarrive/laws.FnFewestCalls", spec := "fnFewestCalls", unfollowed := true, recurses := true, apart := false }
def FnFewestCallsSaid : Prop := fnFewestCallsRow.holds Try.pinned (OpenSpec.ofChange fnFewestCallsSpec)

/-- ITS FALSE NEIGHBOUR: 'it returns false'. Refute it at one input. -/
def fnFewestCallsWrong : ChangeSpec := { name := "fnFewestCalls", fn := fun _ => fun
  | [d] => { results := [.lit (.bool false)], args := [d] }
  | _ => none }
def FnFewestCallsWrongFalsely : Prop := fnFewestCallsRow.holds Try.pinned (OpenSpec.ofChange fnFewestCallsWrong)

/-- 'laws.FnCallsTried': WHATEVER THE INPUT: true; the input reads as it did. -/
def fnCallsTriedSpec : ChangeSpec := { name := "fnCallsTried", fn := fun _ => fun
  | [d] => { results := [.lit (.bool true)], args := [d] }
  | _ => none }
def fnCallsTriedRow : OpenClaim := { program := "ytonnffilcmlodaa", sum := "45bbb0ad2bbeb185a4d5576579eeb5c46c3db9dc3a014fcdb57e12d7d98942d1", func := "loop.example/lettersthatarrive/laws.FnCallsTried", spec := "fnCallsTried", unfollowed := true, recurses := true, apart := false }
def FnCallsTriedSaid : Prop := fnCallsTriedRow.holds Try.pinned (OpenSpec.ofChange fnCallsTriedSpec)

/-- ITS FALSE NEIGHBOUR: 'it returns false'. Refute it at one input. -/
def fnCallsTriedWrong : ChangeSpec := { name := "fnCallsTried", fn := fun _ => fun
  | [d] => { results := [.lit (.bool false)], args := [d] }
  | _ => none }
def FnCallsTriedWrongFalsely : Prop := fnCallsTriedRow.holds Try.pinned (OpenSpec.ofChange fnCallsTriedWrong)

/-- 'laws.FnCallsBackwards': WHATEVER THE INPUT: true; the input reads as it did. -/
def fnCallsBackwardsSpec : ChangeSpec := { name := "fnCallsBackwards", fn := fun _ => fun
  | [d] => { results := [.lit (.bool true)], args := [d] }
  | _ => none }
def fnCallsBackwardsRow : OpenClaim := { program := "ytonnffilcmlodaa", sum := "45bbb0ad2bbeb185a4d5576579eeb5c46c3db9dc3a014fcdb57e12d7d98942d1", func := "loop.example/lettersthatarrive/laws.FnCallsBackwards", spec := "fnCallsBackwards", apart := false }
def FnCallsBackwardsSaid : Prop := fnCallsBackwardsRow.holds Try.pinned (OpenSpec.ofChange fnCallsBackwardsSpec)

/-- ITS FALSE NEIGHBOUR: 'it returns false'. Refute it at one input. -/
def fnCallsBackwardsWrong : ChangeSpec := { name := "fnCallsBackwards", fn := fun _ => fun
  | [d] => { results := [.lit (.bool false)], args := [d] }
  | _ => none }
def FnCallsBackwardsWrongFalsely : Prop := fnCallsBackwardsRow.holds Try.pinned (OpenSpec.ofChange fnCallsBackwardsWrong)

/-- 'laws.FnExactValidCalls': WHATEVER THE INPUT: true; the input reads as it did. -/
def fnExactValidCallsSpec : ChangeSpec := { name := "fnExactValidCalls", fn := fun _ => fun
  | [d1, d2] => { results := [.lit (.bool true)], args := [d1, d2] }
  | _ => none }
def fnExactValidCallsRow : OpenClaim := { program := "ytonnffilcmlodaa", sum := "45bbb0ad2bbeb185a4d5576579eeb5c46c3db9dc3a014fcdb57e12d7d98942d1", func := "loop.example/lettersthatarrive/laws.FnExactValidCalls", spec := "fnExactValidCalls", apart := false }
def FnExactValidCallsSaid : Prop := fnExactValidCallsRow.holds Try.pinned (OpenSpec.ofChange fnExactValidCallsSpec)

/-- ITS FALSE NEIGHBOUR: 'it returns false'. Refute it at one input. -/
def fnExactValidCallsWrong : ChangeSpec := { name := "fnExactValidCalls", fn := fun _ => fun
  | [d1, d2] => { results := [.lit (.bool false)], args := [d1, d2] }
  | _ => none }
def FnExactValidCallsWrongFalsely : Prop := fnExactValidCallsRow.holds Try.pinned (OpenSpec.ofChange fnExactValidCallsWrong)

/-- 'laws.FnExactKnownAfter': WHATEVER THE INPUT: true; the input reads as it did. -/
def fnExactKnownAfterSpec : ChangeSpec := { name := "fnExactKnownAfter", fn := fun _ => fun
  | [d1, d2] => { results := [.lit (.bool true)], args := [d1, d2] }
  | _ => none }
def fnExactKnownAfterRow : OpenClaim := { program := "ytonnffilcmlodaa", sum := "45bbb0ad2bbeb185a4d5576579eeb5c46c3db9dc3a014fcdb57e12d7d98942d1", func := "loop.example/lettersthatarrive/laws.FnExactKnownAfter", spec := "fnExactKnownAfter", apart := false }
def FnExactKnownAfterSaid : Prop := fnExactKnownAfterRow.holds Try.pinned (OpenSpec.ofChange fnExactKnownAfterSpec)

/-- ITS FALSE NEIGHBOUR: 'it returns false'. Refute it at one input. -/
def fnExactKnownAfterWrong : ChangeSpec := { name := "fnExactKnownAfter", fn := fun _ => fun
  | [d1, d2] => { results := [.lit (.bool false)], args := [d1, d2] }
  | _ => none }
def FnExactKnownAfterWrongFalsely : Prop := fnExactKnownAfterRow.holds Try.pinned (OpenSpec.ofChange fnExactKnownAfterWrong)

/-- 'laws.FnExactCallsFor': WHATEVER THE INPUT: true; the input reads as it did. -/
def fnExactCallsForSpec : ChangeSpec := { name := "fnExactCallsFor", fn := fun _ => fun
  | [d] => { results := [.lit (.bool true)], args := [d] }
  | _ => none }
def fnExactCallsForRow : OpenClaim := { program := "ytonnffilcmlodaa", sum := "45bbb0ad2bbeb185a4d5576579eeb5c46c3db9dc3a014fcdb57e12d7d98942d1", func := "loop.example/lettersthatarrive/laws.FnExactCallsFor", spec := "fnExactCallsFor", apart := false }
def FnExactCallsForSaid : Prop := fnExactCallsForRow.holds Try.pinned (OpenSpec.ofChange fnExactCallsForSpec)

/-- ITS FALSE NEIGHBOUR: 'it returns false'. Refute it at one input. -/
def fnExactCallsForWrong : ChangeSpec := { name := "fnExactCallsFor", fn := fun _ => fun
  | [d] => { results := [.lit (.bool false)], args := [d] }
  | _ => none }
def FnExactCallsForWrongFalsely : Prop := fnExactCallsForRow.holds Try.pinned (OpenSpec.ofChange fnExactCallsForWrong)

/-- 'laws.FnExactFewestCalls': WHATEVER THE INPUT: true; the input reads as it did. -/
def fnExactFewestCallsSpec : ChangeSpec := { name := "fnExactFewestCalls", fn := fun _ => fun
  | [d] => { results := [.lit (.bool true)], args := [d] }
  | _ => none }
def fnExactFewestCallsRow : OpenClaim := { program := "ytonnffilcmlodaa", sum := "45bbb0ad2bbeb185a4d5576579eeb5c46c3db9dc3a014fcdb57e12d7d98942d1", func := "loop.example/lettersthatarrive/laws.FnExactFewestCalls", spec := "fnExactFewestCalls", apart := false }
def FnExactFewestCallsSaid : Prop := fnExactFewestCallsRow.holds Try.pinned (OpenSpec.ofChange fnExactFewestCallsSpec)

/-- ITS FALSE NEIGHBOUR: 'it returns false'. Refute it at one input. -/
def fnExactFewestCallsWrong : ChangeSpec := { name := "fnExactFewestCalls", fn := fun _ => fun
  | [d] => { results := [.lit (.bool false)], args := [d] }
  | _ => none }
def FnExactFewestCallsWrongFalsely : Prop := fnExactFewestCallsRow.holds Try.pinned (OpenSpec.ofChange fnExactFewestCallsWrong)

/-- 'laws.FnExactCallsTried': WHATEVER THE INPUT: true; the input reads as it did. -/
def fnExactCallsTriedSpec : ChangeSpec := { name := "fnExactCallsTried", fn := fun _ => fun
  | [d] => { results := [.lit (.bool true)], args := [d] }
  | _ => none }
def fnExactCallsTriedRow : OpenClaim := { program := "ytonnffilcmlodaa", sum := "45bbb0ad2bbeb185a4d5576579eeb5c46c3db9dc3a014fcdb57e12d7d98942d1", func := "loop.example/lettersthatarrive/laws.FnExactCallsTried", spec := "fnExactCallsTried", unfollowed := true, recurses := true, apart := false }
def FnExactCallsTriedSaid : Prop := fnExactCallsTriedRow.holds Try.pinned (OpenSpec.ofChange fnExactCallsTriedSpec)

/-- ITS FALSE NEIGHBOUR: 'it returns false'. Refute it at one input. -/
def fnExactCallsTriedWrong : ChangeSpec := { name := "fnExactCallsTried", fn := fun _ => fun
  | [d] => { results := [.lit (.bool false)], args := [d] }
  | _ => none }
def FnExactCallsTriedWrongFalsely : Prop := fnExactCallsTriedRow.holds Try.pinned (OpenSpec.ofChange fnExactCallsTriedWrong)

/- THE SECOND FORM. 'bulk': how many values and letters a reading holds, each counted each time it is reached (what is shared counts as often as it is met; a slice's spare places count too). A statement '..UptoSaid' is the law's where the arguments, and the package variables that the reading takes, are together of bulk at most 1048576: NARROWER than '..Said'. Prove '..Said' where nothing that the law and all that it calls make is longer than what came in: it says more and counts as full. Else prove '..UptoSaid'. A law counts once. -/
mutual
def uptoBulk {H : Type} : DataW H → Nat
  | .lit (.string bytes) => bytes.length + 1
  | .lit _ => 1
  | .nil => 1
  | .ptr d => uptoBulk d + 1
  | .slice elems spare => uptoBulkAll elems + uptoBulkAll spare + 1
  | .agg parts => uptoBulkAll parts + 1
  | .iface _ d => uptoBulk d + 1
  | .map entries => uptoBulkEntries entries + 1
  | .held _ => 1
def uptoBulkAll {H : Type} : List (DataW H) → Nat
  | [] => 0
  | d :: r => uptoBulk d + uptoBulkAll r
def uptoBulkEntries {H : Type} : List (Lit × DataW H) → Nat
  | [] => 0
  | x :: r => uptoBulkEntry x + uptoBulkEntries r
def uptoBulkEntry {H : Type} : Lit × DataW H → Nat
  | (.string bytes, d) => bytes.length + uptoBulk d + 1
  | (_, d) => uptoBulk d + 1
 end
def uptoSmall : (H : Type) → List (DataW H) → Bool := fun _ ds => decide (uptoBulkAll ds ≤ 1048576)
def OpenSpec.upto (s : _root_.Go.ChangeSpec) : _root_.Go.OpenSpec := { _root_.Go.OpenSpec.ofChange s with cond := some uptoSmall }

/-- 'laws.FnValidCalls', WHERE WHAT IT READS IS OF BULK AT MOST 1048576: true; the input reads as it did. -/
def fnValidCallsUptoRow : OpenClaim := { program := "ytonnffilcmlodaa", sum := "45bbb0ad2bbeb185a4d5576579eeb5c46c3db9dc3a014fcdb57e12d7d98942d1", func := "loop.example/lettersthatarrive/laws.FnValidCalls", spec := "fnValidCalls", apart := false, narrowed := true }
def FnValidCallsUptoSaid : Prop := fnValidCallsUptoRow.holds Try.pinned (OpenSpec.upto fnValidCallsSpec)

/-- 'laws.FnKnownAfter', WHERE WHAT IT READS IS OF BULK AT MOST 1048576: true; the input reads as it did. -/
def fnKnownAfterUptoRow : OpenClaim := { program := "ytonnffilcmlodaa", sum := "45bbb0ad2bbeb185a4d5576579eeb5c46c3db9dc3a014fcdb57e12d7d98942d1", func := "loop.example/lettersthatarrive/laws.FnKnownAfter", spec := "fnKnownAfter", apart := false, narrowed := true }
def FnKnownAfterUptoSaid : Prop := fnKnownAfterUptoRow.holds Try.pinned (OpenSpec.upto fnKnownAfterSpec)

/-- 'laws.FnCallsFor', WHERE WHAT IT READS IS OF BULK AT MOST 1048576: true; the input reads as it did. -/
def fnCallsForUptoRow : OpenClaim := { program := "ytonnffilcmlodaa", sum := "45bbb0ad2bbeb185a4d5576579eeb5c46c3db9dc3a014fcdb57e12d7d98942d1", func := "loop.example/lettersthatarrive/laws.FnCallsFor", spec := "fnCallsFor", apart := false, narrowed := true }
def FnCallsForUptoSaid : Prop := fnCallsForUptoRow.holds Try.pinned (OpenSpec.upto fnCallsForSpec)

/-- 'laws.FnFewestCalls', WHERE WHAT IT READS IS OF BULK AT MOST 1048576: true; the input reads as it did. -/
def fnFewestCallsUptoRow : OpenClaim := { program := "ytonnffilcmlodaa", sum := "45bbb0ad2bbeb185a4d5576579eeb5c46c3db9dc3a014fcdb57e12d7d98942d1", func := "loop.example/lettersthatarrive/laws.FnFewestCalls", spec := "fnFewestCalls", unfollowed := true, recurses := true, apart := false, narrowed := true }
def FnFewestCallsUptoSaid : Prop := fnFewestCallsUptoRow.holds Try.pinned (OpenSpec.upto fnFewestCallsSpec)

/-- 'laws.FnCallsTried', WHERE WHAT IT READS IS OF BULK AT MOST 1048576: true; the input reads as it did. -/
def fnCallsTriedUptoRow : OpenClaim := { program := "ytonnffilcmlodaa", sum := "45bbb0ad2bbeb185a4d5576579eeb5c46c3db9dc3a014fcdb57e12d7d98942d1", func := "loop.example/lettersthatarrive/laws.FnCallsTried", spec := "fnCallsTried", unfollowed := true, recurses := true, apart := false, narrowed := true }
def FnCallsTriedUptoSaid : Prop := fnCallsTriedUptoRow.holds Try.pinned (OpenSpec.upto fnCallsTriedSpec)

/-- 'laws.FnCallsBackwards', WHERE WHAT IT READS IS OF BULK AT MOST 1048576: true; the input reads as it did. -/
def fnCallsBackwardsUptoRow : OpenClaim := { program := "ytonnffilcmlodaa", sum := "45bbb0ad2bbeb185a4d5576579eeb5c46c3db9dc3a014fcdb57e12d7d98942d1", func := "loop.example/lettersthatarrive/laws.FnCallsBackwards", spec := "fnCallsBackwards", apart := false, narrowed := true }
def FnCallsBackwardsUptoSaid : Prop := fnCallsBackwardsUptoRow.holds Try.pinned (OpenSpec.upto fnCallsBackwardsSpec)

/-- 'laws.FnExactValidCalls', WHERE WHAT IT READS IS OF BULK AT MOST 1048576: true; the input reads as it did. -/
def fnExactValidCallsUptoRow : OpenClaim := { program := "ytonnffilcmlodaa", sum := "45bbb0ad2bbeb185a4d5576579eeb5c46c3db9dc3a014fcdb57e12d7d98942d1", func := "loop.example/lettersthatarrive/laws.FnExactValidCalls", spec := "fnExactValidCalls", apart := false, narrowed := true }
def FnExactValidCallsUptoSaid : Prop := fnExactValidCallsUptoRow.holds Try.pinned (OpenSpec.upto fnExactValidCallsSpec)

/-- 'laws.FnExactKnownAfter', WHERE WHAT IT READS IS OF BULK AT MOST 1048576: true; the input reads as it did. -/
def fnExactKnownAfterUptoRow : OpenClaim := { program := "ytonnffilcmlodaa", sum := "45bbb0ad2bbeb185a4d5576579eeb5c46c3db9dc3a014fcdb57e12d7d98942d1", func := "loop.example/lettersthatarrive/laws.FnExactKnownAfter", spec := "fnExactKnownAfter", apart := false, narrowed := true }
def FnExactKnownAfterUptoSaid : Prop := fnExactKnownAfterUptoRow.holds Try.pinned (OpenSpec.upto fnExactKnownAfterSpec)

/-- 'laws.FnExactCallsFor', WHERE WHAT IT READS IS OF BULK AT MOST 1048576: true; the input reads as it did. -/
def fnExactCallsForUptoRow : OpenClaim := { program := "ytonnffilcmlodaa", sum := "45bbb0ad2bbeb185a4d5576579eeb5c46c3db9dc3a014fcdb57e12d7d98942d1", func := "loop.example/lettersthatarrive/laws.FnExactCallsFor", spec := "fnExactCallsFor", apart := false, narrowed := true }
def FnExactCallsForUptoSaid : Prop := fnExactCallsForUptoRow.holds Try.pinned (OpenSpec.upto fnExactCallsForSpec)

/-- 'laws.FnExactFewestCalls', WHERE WHAT IT READS IS OF BULK AT MOST 1048576: true; the input reads as it did. -/
def fnExactFewestCallsUptoRow : OpenClaim := { program := "ytonnffilcmlodaa", sum := "45bbb0ad2bbeb185a4d5576579eeb5c46c3db9dc3a014fcdb57e12d7d98942d1", func := "loop.example/lettersthatarrive/laws.FnExactFewestCalls", spec := "fnExactFewestCalls", apart := false, narrowed := true }
def FnExactFewestCallsUptoSaid : Prop := fnExactFewestCallsUptoRow.holds Try.pinned (OpenSpec.upto fnExactFewestCallsSpec)

/-- 'laws.FnExactCallsTried', WHERE WHAT IT READS IS OF BULK AT MOST 1048576: true; the input reads as it did. -/
def fnExactCallsTriedUptoRow : OpenClaim := { program := "ytonnffilcmlodaa", sum := "45bbb0ad2bbeb185a4d5576579eeb5c46c3db9dc3a014fcdb57e12d7d98942d1", func := "loop.example/lettersthatarrive/laws.FnExactCallsTried", spec := "fnExactCallsTried", unfollowed := true, recurses := true, apart := false, narrowed := true }
def FnExactCallsTriedUptoSaid : Prop := fnExactCallsTriedUptoRow.holds Try.pinned (OpenSpec.upto fnExactCallsTriedSpec)

end Rows
end Go.Proofs.Ytonnffilcmlodaa
