/-
  No cell of these rows narrows 'for every input' (looked for: loops, veiled, ifaces, maps, wideKeys, modest, calm, conditions, laid).
  DERIVED. THE GIVEN ROWS OF THIS SEAT. 9 by the template 'for every input the law returns true; each argument reads behind the call as it read before'; 0 by the template 'total and deterministic' (their statements: YtldbefmiabgkhaaTotals.lean).
  GIVEN WITH THE SEED: the statements are not yours to turn. If you find one false, say at which input.
  Laid BY PROGRAM, IN A SANDBOX (cutbox-rows.mjs): the forced cells as the released guide's own fill.sh prints them over the translation 1fec852dd2759087… (all of the seat's roots in one cut). By AI agents, Wed Nov 11 2026. No macro, syntax, notation, axiom, sorry.
-/
import Derived.Test.YtldbefmiabgkhaaChecked
import GoSem.Claim
import GoSem.ClaimJoined
import GoSem.ClaimMapViews
import Derived.JoinedTies
import Derived.KernelRfl
namespace Go.Proofs.Ytldbefmiabgkhaa
/- THE CELL 'sum', in the pinned program and in every row, IS THE sha256 OF THE DUMP (.gsa) THAT YtldbefmiabgkhaaProg.lean LOADS. Nothing in Lean hashes anything: it is a label: what it is worth is what the hold of that sum in a sandbox is worth. -/
noncomputable def Try.pinned : Pinned := { name := "ytldbefmiabgkhaa", sum := "1fec852dd2759087deb39716fff1797dfbbe239d8dfb7b7558d72ee8fbb3a399", checked := Try.checked }
namespace Rows
def none {H : Type} : Left H := { results := [], args := [] }

/-- 'laws.FnExactValidGroups': WHATEVER THE INPUT: true; the input reads as it did. -/
def fnExactValidGroupsSpec : ChangeSpec := { name := "fnExactValidGroups", fn := fun _ => fun
  | [d] => { results := [.lit (.bool true)], args := [d] }
  | _ => none }
def fnExactValidGroupsRow : OpenClaim := { program := "ytldbefmiabgkhaa", sum := "1fec852dd2759087deb39716fff1797dfbbe239d8dfb7b7558d72ee8fbb3a399", func := "loop.example/lettersthatarrive/laws.FnExactValidGroups", spec := "fnExactValidGroups", apart := false }
def FnExactValidGroupsSaid : Prop := fnExactValidGroupsRow.holds Try.pinned (OpenSpec.ofChange fnExactValidGroupsSpec)

/-- ITS FALSE NEIGHBOUR: 'it returns false'. Refute it at one input. -/
def fnExactValidGroupsWrong : ChangeSpec := { name := "fnExactValidGroups", fn := fun _ => fun
  | [d] => { results := [.lit (.bool false)], args := [d] }
  | _ => none }
def FnExactValidGroupsWrongFalsely : Prop := fnExactValidGroupsRow.holds Try.pinned (OpenSpec.ofChange fnExactValidGroupsWrong)

/-- 'laws.FnExactForwardOf': WHATEVER THE INPUT: true; the input reads as it did. -/
def fnExactForwardOfSpec : ChangeSpec := { name := "fnExactForwardOf", fn := fun _ => fun
  | [d1, d2] => { results := [.lit (.bool true)], args := [d1, d2] }
  | _ => none }
def fnExactForwardOfRow : OpenClaim := { program := "ytldbefmiabgkhaa", sum := "1fec852dd2759087deb39716fff1797dfbbe239d8dfb7b7558d72ee8fbb3a399", func := "loop.example/lettersthatarrive/laws.FnExactForwardOf", spec := "fnExactForwardOf", apart := false }
def FnExactForwardOfSaid : Prop := fnExactForwardOfRow.holds Try.pinned (OpenSpec.ofChange fnExactForwardOfSpec)

/-- ITS FALSE NEIGHBOUR: 'it returns false'. Refute it at one input. -/
def fnExactForwardOfWrong : ChangeSpec := { name := "fnExactForwardOf", fn := fun _ => fun
  | [d1, d2] => { results := [.lit (.bool false)], args := [d1, d2] }
  | _ => none }
def FnExactForwardOfWrongFalsely : Prop := fnExactForwardOfRow.holds Try.pinned (OpenSpec.ofChange fnExactForwardOfWrong)

/-- 'laws.FnExactReadOrder': WHATEVER THE INPUT: true; the input reads as it did. -/
def fnExactReadOrderSpec : ChangeSpec := { name := "fnExactReadOrder", fn := fun _ => fun
  | [d] => { results := [.lit (.bool true)], args := [d] }
  | _ => none }
def fnExactReadOrderRow : OpenClaim := { program := "ytldbefmiabgkhaa", sum := "1fec852dd2759087deb39716fff1797dfbbe239d8dfb7b7558d72ee8fbb3a399", func := "loop.example/lettersthatarrive/laws.FnExactReadOrder", spec := "fnExactReadOrder", recurses := true, apart := false }
def FnExactReadOrderSaid : Prop := fnExactReadOrderRow.holds Try.pinned (OpenSpec.ofChange fnExactReadOrderSpec)

/-- ITS FALSE NEIGHBOUR: 'it returns false'. Refute it at one input. -/
def fnExactReadOrderWrong : ChangeSpec := { name := "fnExactReadOrder", fn := fun _ => fun
  | [d] => { results := [.lit (.bool false)], args := [d] }
  | _ => none }
def FnExactReadOrderWrongFalsely : Prop := fnExactReadOrderRow.holds Try.pinned (OpenSpec.ofChange fnExactReadOrderWrong)

/-- 'laws.FnExactDepthsOf': WHATEVER THE INPUT: true; the input reads as it did. -/
def fnExactDepthsOfSpec : ChangeSpec := { name := "fnExactDepthsOf", fn := fun _ => fun
  | [d] => { results := [.lit (.bool true)], args := [d] }
  | _ => none }
def fnExactDepthsOfRow : OpenClaim := { program := "ytldbefmiabgkhaa", sum := "1fec852dd2759087deb39716fff1797dfbbe239d8dfb7b7558d72ee8fbb3a399", func := "loop.example/lettersthatarrive/laws.FnExactDepthsOf", spec := "fnExactDepthsOf", apart := false }
def FnExactDepthsOfSaid : Prop := fnExactDepthsOfRow.holds Try.pinned (OpenSpec.ofChange fnExactDepthsOfSpec)

/-- ITS FALSE NEIGHBOUR: 'it returns false'. Refute it at one input. -/
def fnExactDepthsOfWrong : ChangeSpec := { name := "fnExactDepthsOf", fn := fun _ => fun
  | [d] => { results := [.lit (.bool false)], args := [d] }
  | _ => none }
def FnExactDepthsOfWrongFalsely : Prop := fnExactDepthsOfRow.holds Try.pinned (OpenSpec.ofChange fnExactDepthsOfWrong)

/-- 'laws.FnValidGroups': WHATEVER THE INPUT: true; the input reads as it did. -/
def fnValidGroupsSpec : ChangeSpec := { name := "fnValidGroups", fn := fun _ => fun
  | [d] => { results := [.lit (.bool true)], args := [d] }
  | _ => none }
def fnValidGroupsRow : OpenClaim := { program := "ytldbefmiabgkhaa", sum := "1fec852dd2759087deb39716fff1797dfbbe239d8dfb7b7558d72ee8fbb3a399", func := "loop.example/lettersthatarrive/laws.FnValidGroups", spec := "fnValidGroups", apart := false }
def FnValidGroupsSaid : Prop := fnValidGroupsRow.holds Try.pinned (OpenSpec.ofChange fnValidGroupsSpec)

/-- ITS FALSE NEIGHBOUR: 'it returns false'. Refute it at one input. -/
def fnValidGroupsWrong : ChangeSpec := { name := "fnValidGroups", fn := fun _ => fun
  | [d] => { results := [.lit (.bool false)], args := [d] }
  | _ => none }
def FnValidGroupsWrongFalsely : Prop := fnValidGroupsRow.holds Try.pinned (OpenSpec.ofChange fnValidGroupsWrong)

/-- 'laws.FnForwardOf': WHATEVER THE INPUT: true; the input reads as it did. -/
def fnForwardOfSpec : ChangeSpec := { name := "fnForwardOf", fn := fun _ => fun
  | [d] => { results := [.lit (.bool true)], args := [d] }
  | _ => none }
def fnForwardOfRow : OpenClaim := { program := "ytldbefmiabgkhaa", sum := "1fec852dd2759087deb39716fff1797dfbbe239d8dfb7b7558d72ee8fbb3a399", func := "loop.example/lettersthatarrive/laws.FnForwardOf", spec := "fnForwardOf", apart := false }
def FnForwardOfSaid : Prop := fnForwardOfRow.holds Try.pinned (OpenSpec.ofChange fnForwardOfSpec)

/-- ITS FALSE NEIGHBOUR: 'it returns false'. Refute it at one input. -/
def fnForwardOfWrong : ChangeSpec := { name := "fnForwardOf", fn := fun _ => fun
  | [d] => { results := [.lit (.bool false)], args := [d] }
  | _ => none }
def FnForwardOfWrongFalsely : Prop := fnForwardOfRow.holds Try.pinned (OpenSpec.ofChange fnForwardOfWrong)

/-- 'laws.FnReadOrder': WHATEVER THE INPUT: true; the input reads as it did. -/
def fnReadOrderSpec : ChangeSpec := { name := "fnReadOrder", fn := fun _ => fun
  | [d] => { results := [.lit (.bool true)], args := [d] }
  | _ => none }
def fnReadOrderRow : OpenClaim := { program := "ytldbefmiabgkhaa", sum := "1fec852dd2759087deb39716fff1797dfbbe239d8dfb7b7558d72ee8fbb3a399", func := "loop.example/lettersthatarrive/laws.FnReadOrder", spec := "fnReadOrder", recurses := true, apart := false }
def FnReadOrderSaid : Prop := fnReadOrderRow.holds Try.pinned (OpenSpec.ofChange fnReadOrderSpec)

/-- ITS FALSE NEIGHBOUR: 'it returns false'. Refute it at one input. -/
def fnReadOrderWrong : ChangeSpec := { name := "fnReadOrder", fn := fun _ => fun
  | [d] => { results := [.lit (.bool false)], args := [d] }
  | _ => none }
def FnReadOrderWrongFalsely : Prop := fnReadOrderRow.holds Try.pinned (OpenSpec.ofChange fnReadOrderWrong)

/-- 'laws.FnDepthsOf': WHATEVER THE INPUT: true; the input reads as it did. -/
def fnDepthsOfSpec : ChangeSpec := { name := "fnDepthsOf", fn := fun _ => fun
  | [d] => { results := [.lit (.bool true)], args := [d] }
  | _ => none }
def fnDepthsOfRow : OpenClaim := { program := "ytldbefmiabgkhaa", sum := "1fec852dd2759087deb39716fff1797dfbbe239d8dfb7b7558d72ee8fbb3a399", func := "loop.example/lettersthatarrive/laws.FnDepthsOf", spec := "fnDepthsOf", apart := false }
def FnDepthsOfSaid : Prop := fnDepthsOfRow.holds Try.pinned (OpenSpec.ofChange fnDepthsOfSpec)

/-- ITS FALSE NEIGHBOUR: 'it returns false'. Refute it at one input. -/
def fnDepthsOfWrong : ChangeSpec := { name := "fnDepthsOf", fn := fun _ => fun
  | [d] => { results := [.lit (.bool false)], args := [d] }
  | _ => none }
def FnDepthsOfWrongFalsely : Prop := fnDepthsOfRow.holds Try.pinned (OpenSpec.ofChange fnDepthsOfWrong)

/-- 'laws.FnAnswersKeepOrder': WHATEVER THE INPUT: true; the input reads as it did. -/
def fnAnswersKeepOrderSpec : ChangeSpec := { name := "fnAnswersKeepOrder", fn := fun _ => fun
  | [d] => { results := [.lit (.bool true)], args := [d] }
  | _ => none }
def fnAnswersKeepOrderRow : OpenClaim := { program := "ytldbefmiabgkhaa", sum := "1fec852dd2759087deb39716fff1797dfbbe239d8dfb7b7558d72ee8fbb3a399", func := "loop.example/lettersthatarrive/laws.FnAnswersKeepOrder", spec := "fnAnswersKeepOrder", recurses := true, apart := false }
def FnAnswersKeepOrderSaid : Prop := fnAnswersKeepOrderRow.holds Try.pinned (OpenSpec.ofChange fnAnswersKeepOrderSpec)

/-- ITS FALSE NEIGHBOUR: 'it returns false'. Refute it at one input. -/
def fnAnswersKeepOrderWrong : ChangeSpec := { name := "fnAnswersKeepOrder", fn := fun _ => fun
  | [d] => { results := [.lit (.bool false)], args := [d] }
  | _ => none }
def FnAnswersKeepOrderWrongFalsely : Prop := fnAnswersKeepOrderRow.holds Try.pinned (OpenSpec.ofChange fnAnswersKeepOrderWrong)

/- THE SECOND FORM. 'bulk': how many values and letters a reading holds, each counted each time it is reached (what is shared counts as often as it is met; a slice's spare places count too). A statement '..UptoSaid' is the law's where the arguments, and the package variables that the reading takes, are together of bulk at most 1048576: NARROWER than '..Said'. Prove '..Said' where nothing that the law and all that it calls make is longer than what came in: it says more and counts as full. Else prove '..UptoSaid'. A law counts once. -/
mutual
def uptoBulk {H : Type} : DataW H → Nat
  | .lit (.string bytes) => bytes.length + 1
  | .lit _ => 1
  | .nil => 1
  | .ptr d => uptoBulk d + 1
  | .slice elems spare => uptoBulkAll elems + uptoBulkAll spare + 1
  | .agg parts => uptoBulkAll parts + 1
  | .iface _ d => uptoBulk d + 1
  | .map entries => uptoBulkEntries entries + 1
  | .held _ => 1
def uptoBulkAll {H : Type} : List (DataW H) → Nat
  | [] => 0
  | d :: r => uptoBulk d + uptoBulkAll r
def uptoBulkEntries {H : Type} : List (Lit × DataW H) → Nat
  | [] => 0
  | x :: r => uptoBulkEntry x + uptoBulkEntries r
def uptoBulkEntry {H : Type} : Lit × DataW H → Nat
  | (.string bytes, d) => bytes.length + uptoBulk d + 1
  | (_, d) => uptoBulk d + 1
 end
def uptoSmall : (H : Type) → List (DataW H) → Bool := fun _ ds => decide (uptoBulkAll ds ≤ 1048576)
def OpenSpec.upto (s : _root_.Go.ChangeSpec) : _root_.Go.OpenSpec := { _root_.Go.OpenSpec.ofChange s with cond := some uptoSmall }

/-- 'laws.FnExactValidGroups', WHERE WHAT IT READS IS OF BULK AT MOST 1048576: true; the input reads as it did. -/
def fnExactValidGroupsUptoRow : OpenClaim := { program := "ytldbefmiabgkhaa", sum := "1fec852dd2759087deb39716fff1797dfbbe239d8dfb7b7558d72ee8fbb3a399", func := "loop.example/lettersthatarrive/laws.FnExactValidGroups", spec := "fnExactValidGroups", apart := false, narrowed := true }
def FnExactValidGroupsUptoSaid : Prop := fnExactValidGroupsUptoRow.holds Try.pinned (OpenSpec.upto fnExactValidGroupsSpec)

/-- 'laws.FnExactForwardOf', WHERE WHAT IT READS IS OF BULK AT MOST 1048576: true; the input reads as it did. -/
def fnExactForwardOfUptoRow : OpenClaim := { program := "ytldbefmiabgkhaa", sum := "1fec852dd2759087deb39716fff1797dfbbe239d8dfb7b7558d72ee8fbb3a399", func := "loop.example/lettersthatarrive/laws.FnExactForwardOf", spec := "fnExactForwardOf", apart := false, narrowed := true }
def FnExactForwardOfUptoSaid : Prop := fnExactForwardOfUptoRow.holds Try.pinned (OpenSpec.upto fnExactForwardOfSpec)

/-- 'laws.FnExactReadOrder', WHERE WHAT IT READS IS OF BULK AT MOST 1048576: true; the input reads as it did. -/
def fnExactReadOrderUptoRow : OpenClaim := { program := "ytldbefmiabgkhaa", sum := "1fec852dd2759087deb39716fff1797dfbbe239d8dfb7b7558d72ee8fbb3a399", func := "loop.example/lettersthatarrive/laws.FnExactReadOrder", spec := "fnExactReadOrder", recurses := true, apart := false, narrowed := true }
def FnExactReadOrderUptoSaid : Prop := fnExactReadOrderUptoRow.holds Try.pinned (OpenSpec.upto fnExactReadOrderSpec)

/-- 'laws.FnExactDepthsOf', WHERE WHAT IT READS IS OF BULK AT MOST 1048576: true; the input reads as it did. -/
def fnExactDepthsOfUptoRow : OpenClaim := { program := "ytldbefmiabgkhaa", sum := "1fec852dd2759087deb39716fff1797dfbbe239d8dfb7b7558d72ee8fbb3a399", func := "loop.example/lettersthatarrive/laws.FnExactDepthsOf", spec := "fnExactDepthsOf", apart := false, narrowed := true }
def FnExactDepthsOfUptoSaid : Prop := fnExactDepthsOfUptoRow.holds Try.pinned (OpenSpec.upto fnExactDepthsOfSpec)

/-- 'laws.FnValidGroups', WHERE WHAT IT READS IS OF BULK AT MOST 1048576: true; the input reads as it did. -/
def fnValidGroupsUptoRow : OpenClaim := { program := "ytldbefmiabgkhaa", sum := "1fec852dd2759087deb39716fff1797dfbbe239d8dfb7b7558d72ee8fbb3a399", func := "loop.example/lettersthatarrive/laws.FnValidGroups", spec := "fnValidGroups", apart := false, narrowed := true }
def FnValidGroupsUptoSaid : Prop := fnValidGroupsUptoRow.holds Try.pinned (OpenSpec.upto fnValidGroupsSpec)

/-- 'laws.FnForwardOf', WHERE WHAT IT READS IS OF BULK AT MOST 1048576: true; the input reads as it did. -/
def fnForwardOfUptoRow : OpenClaim := { program := "ytldbefmiabgkhaa", sum := "1fec852dd2759087deb39716fff1797dfbbe239d8dfb7b7558d72ee8fbb3a399", func := "loop.example/lettersthatarrive/laws.FnForwardOf", spec := "fnForwardOf", apart := false, narrowed := true }
def FnForwardOfUptoSaid : Prop := fnForwardOfUptoRow.holds Try.pinned (OpenSpec.upto fnForwardOfSpec)

/-- 'laws.FnReadOrder', WHERE WHAT IT READS IS OF BULK AT MOST 1048576: true; the input reads as it did. -/
def fnReadOrderUptoRow : OpenClaim := { program := "ytldbefmiabgkhaa", sum := "1fec852dd2759087deb39716fff1797dfbbe239d8dfb7b7558d72ee8fbb3a399", func := "loop.example/lettersthatarrive/laws.FnReadOrder", spec := "fnReadOrder", recurses := true, apart := false, narrowed := true }
def FnReadOrderUptoSaid : Prop := fnReadOrderUptoRow.holds Try.pinned (OpenSpec.upto fnReadOrderSpec)

/-- 'laws.FnDepthsOf', WHERE WHAT IT READS IS OF BULK AT MOST 1048576: true; the input reads as it did. -/
def fnDepthsOfUptoRow : OpenClaim := { program := "ytldbefmiabgkhaa", sum := "1fec852dd2759087deb39716fff1797dfbbe239d8dfb7b7558d72ee8fbb3a399", func := "loop.example/lettersthatarrive/laws.FnDepthsOf", spec := "fnDepthsOf", apart := false, narrowed := true }
def FnDepthsOfUptoSaid : Prop := fnDepthsOfUptoRow.holds Try.pinned (OpenSpec.upto fnDepthsOfSpec)

/-- 'laws.FnAnswersKeepOrder', WHERE WHAT IT READS IS OF BULK AT MOST 1048576: true; the input reads as it did. -/
def fnAnswersKeepOrderUptoRow : OpenClaim := { program := "ytldbefmiabgkhaa", sum := "1fec852dd2759087deb39716fff1797dfbbe239d8dfb7b7558d72ee8fbb3a399", func := "loop.example/lettersthatarrive/laws.FnAnswersKeepOrder", spec := "fnAnswersKeepOrder", recurses := true, apart := false, narrowed := true }
def FnAnswersKeepOrderUptoSaid : Prop := fnAnswersKeepOrderUptoRow.holds Try.pinned (OpenSpec.upto fnAnswersKeepOrderSpec)

end Rows
end Go.Proofs.Ytldbefmiabgkhaa
