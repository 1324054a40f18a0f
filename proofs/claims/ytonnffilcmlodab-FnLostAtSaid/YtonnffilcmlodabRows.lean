/-
  No cell of these rows narrows 'for every input' (looked for: loops, veiled, ifaces, maps, wideKeys, modest, calm, conditions, laid).
  DERIVED. THE GIVEN ROWS OF THIS SEAT. 5 by the template 'for every input the law returns true; each argument reads behind the call as it read before'; 0 by the template 'total and deterministic' (their statements: YtonnffilcmlodabTotals.lean).
  GIVEN WITH THE SEED: the statements are not yours to turn. If you find one false, say at which input.
  Laid BY PROGRAM, IN A SANDBOX (cutbox-rows.mjs): the forced cells as the released guide's own fill.sh prints them over the translation 64ccc158844bea41… (all of the seat's roots in one cut). By AI agents, Wed Nov 11 2026. No macro, syntax, notation, axiom, sorry.
-/
import Derived.Test.YtonnffilcmlodabChecked
import GoSem.Claim
import GoSem.ClaimJoined
import GoSem.ClaimMapViews
import Derived.JoinedTies
import Derived.KernelRfl
namespace Go.Proofs.Ytonnffilcmlodab
/- THE CELL 'sum', in the pinned program and in every row, IS THE sha256 OF THE DUMP (.gsa) THAT YtonnffilcmlodabProg.lean LOADS. Nothing in Lean hashes anything: it is a label: what it is worth is what the hold of that sum in a sandbox is worth. -/
noncomputable def Try.pinned : Pinned := { name := "ytonnffilcmlodab", sum := "64ccc158844bea419c75b51dd93de54f5251e66331a31f0e16f48e54970c1870", checked := Try.checked }
namespace Rows
def none {H : Type} : Left H := { results := [], args := [] }

/-- 'laws.FnArriveChance': WHATEVER THE INPUT: true; the input reads as it did. -/
def fnArriveChanceSpec : ChangeSpec := { name := "fnArriveChance", fn := fun _ => fun
  | [d] => { results := [.lit (.bool true)], args := [d] }
  | _ => none }
def fnArriveChanceRow : OpenClaim := { program := "ytonnffilcmlodab", sum := "64ccc158844bea419c75b51dd93de54f5251e66331a31f0e16f48e54970c1870", func := "loop.example/lettersthatarrive/laws.FnArriveChance", spec := "fnArriveChance", unfollowed := true, recurses := true, apart := false }
def FnArriveChanceSaid : Prop := fnArriveChanceRow.holds Try.pinned (OpenSpec.ofChange fnArriveChanceSpec)

/-- ITS FALSE NEIGHBOUR: 'it returns false'. Refute it at one input. -/
def fnArriveChanceWrong : ChangeSpec := { name := "fnArriveChance", fn := fun _ => fun
  | [d] => { results := [.lit (.bool false)], args := [d] }
  | _ => none }
def FnArriveChanceWrongFalsely : Prop := fnArriveChanceRow.holds Try.pinned (OpenSpec.ofChange fnArriveChanceWrong)

/-- 'laws.FnLostAt': WHATEVER THE INPUT: true; the input reads as it did. -/
def fnLostAtSpec : ChangeSpec := { name := "fnLostAt", fn := fun _ => fun
  | [d] => { results := [.lit (.bool true)], args := [d] }
  | _ => none }
def fnLostAtRow : OpenClaim := { program := "ytonnffilcmlodab", sum := "64ccc158844bea419c75b51dd93de54f5251e66331a31f0e16f48e54970c1870", func := "loop.example/lettersthatarrive/laws.FnLostAt", spec := "fnLostAt", unfollowed := true, recurses := true, apart := false }
def FnLostAtSaid : Prop := fnLostAtRow.holds Try.pinned (OpenSpec.ofChange fnLostAtSpec)

/-- ITS FALSE NEIGHBOUR: 'it returns false'. Refute it at one input. -/
def fnLostAtWrong : ChangeSpec := { name := "fnLostAt", fn := fun _ => fun
  | [d] => { results := [.lit (.bool false)], args := [d] }
  | _ => none }
def FnLostAtWrongFalsely : Prop := fnLostAtRow.holds Try.pinned (OpenSpec.ofChange fnLostAtWrong)

/-- 'laws.FnLostIsNotArrived': WHATEVER THE INPUT: true; the input reads as it did. -/
def fnLostIsNotArrivedSpec : ChangeSpec := { name := "fnLostIsNotArrived", fn := fun _ => fun
  | [d] => { results := [.lit (.bool true)], args := [d] }
  | _ => none }
def fnLostIsNotArrivedRow : OpenClaim := { program := "ytonnffilcmlodab", sum := "64ccc158844bea419c75b51dd93de54f5251e66331a31f0e16f48e54970c1870", func := "loop.example/lettersthatarrive/laws.FnLostIsNotArrived", spec := "fnLostIsNotArrived", unfollowed := true, recurses := true, apart := false }
def FnLostIsNotArrivedSaid : Prop := fnLostIsNotArrivedRow.holds Try.pinned (OpenSpec.ofChange fnLostIsNotArrivedSpec)

/-- ITS FALSE NEIGHBOUR: 'it returns false'. Refute it at one input. -/
def fnLostIsNotArrivedWrong : ChangeSpec := { name := "fnLostIsNotArrived", fn := fun _ => fun
  | [d] => { results := [.lit (.bool false)], args := [d] }
  | _ => none }
def FnLostIsNotArrivedWrongFalsely : Prop := fnLostIsNotArrivedRow.holds Try.pinned (OpenSpec.ofChange fnLostIsNotArrivedWrong)

/-- 'laws.FnExactArriveChance': WHATEVER THE INPUT: true; the input reads as it did. -/
def fnExactArriveChanceSpec : ChangeSpec := { name := "fnExactArriveChance", fn := fun _ => fun
  | [d] => { results := [.lit (.bool true)], args := [d] }
  | _ => none }
def fnExactArriveChanceRow : OpenClaim := { program := "ytonnffilcmlodab", sum := "64ccc158844bea419c75b51dd93de54f5251e66331a31f0e16f48e54970c1870", func := "loop.example/lettersthatarrive/laws.FnExactArriveChance", spec := "fnExactArriveChance", unfollowed := true, recurses := true, apart := false }
def FnExactArriveChanceSaid : Prop := fnExactArriveChanceRow.holds Try.pinned (OpenSpec.ofChange fnExactArriveChanceSpec)

/-- ITS FALSE NEIGHBOUR: 'it returns false'. Refute it at one input. -/
def fnExactArriveChanceWrong : ChangeSpec := { name := "fnExactArriveChance", fn := fun _ => fun
  | [d] => { results := [.lit (.bool false)], args := [d] }
  | _ => none }
def FnExactArriveChanceWrongFalsely : Prop := fnExactArriveChanceRow.holds Try.pinned (OpenSpec.ofChange fnExactArriveChanceWrong)

/-- 'laws.FnExactLostAt': WHATEVER THE INPUT: true; the input reads as it did. -/
def fnExactLostAtSpec : ChangeSpec := { name := "fnExactLostAt", fn := fun _ => fun
  | [d] => { results := [.lit (.bool true)], args := [d] }
  | _ => none }
def fnExactLostAtRow : OpenClaim := { program := "ytonnffilcmlodab", sum := "64ccc158844bea419c75b51dd93de54f5251e66331a31f0e16f48e54970c1870", func := "loop.example/lettersthatarrive/laws.FnExactLostAt", spec := "fnExactLostAt", unfollowed := true, recurses := true, apart := false }
def FnExactLostAtSaid : Prop := fnExactLostAtRow.holds Try.pinned (OpenSpec.ofChange fnExactLostAtSpec)

/-- ITS FALSE NEIGHBOUR: 'it returns false'. Refute it at one input. -/
def fnExactLostAtWrong : ChangeSpec := { name := "fnExactLostAt", fn := fun _ => fun
  | [d] => { results := [.lit (.bool false)], args := [d] }
  | _ => none }
def FnExactLostAtWrongFalsely : Prop := fnExactLostAtRow.holds Try.pinned (OpenSpec.ofChange fnExactLostAtWrong)

/- THE SECOND FORM. 'bulk': how many values and letters a reading holds, each counted each time it is reached (what is shared counts as often as it is met; a slice's spare places count too). A statement '..UptoSaid' is the law's where the arguments, and the package variables that the reading takes, are together of bulk at most 1048576: NARROWER than '..Said'. Prove '..Said' where nothing that the law and all that it calls make is longer than what came in: it says more and counts as full. Else prove '..UptoSaid'. A law counts once. -/
mutual
def uptoBulk {H : Type} : DataW H → Nat
  | .lit (.string bytes) => bytes.length + 1
  | .lit _ => 1
  | .nil => 1
  | .ptr d => uptoBulk d + 1
  | .slice elems spare => uptoBulkAll elems + uptoBulkAll spare + 1
  | .agg parts => uptoBulkAll parts + 1
  | .iface _ d => uptoBulk d + 1
  | .map entries => uptoBulkEntries entries + 1
  | .held _ => 1
def uptoBulkAll {H : Type} : List (DataW H) → Nat
  | [] => 0
  | d :: r => uptoBulk d + uptoBulkAll r
def uptoBulkEntries {H : Type} : List (Lit × DataW H) → Nat
  | [] => 0
  | x :: r => uptoBulkEntry x + uptoBulkEntries r
def uptoBulkEntry {H : Type} : Lit × DataW H → Nat
  | (.string bytes, d) => bytes.length + uptoBulk d + 1
  | (_, d) => uptoBulk d + 1
 end
def uptoSmall : (H : Type) → List (DataW H) → Bool := fun _ ds => decide (uptoBulkAll ds ≤ 1048576)
def OpenSpec.upto (s : _root_.Go.ChangeSpec) : _root_.Go.OpenSpec := { _root_.Go.OpenSpec.ofChange s with cond := some uptoSmall }

/-- 'laws.FnArriveChance', WHERE WHAT IT READS IS OF BULK AT MOST 1048576: true; the input reads as it did. -/
def fnArriveChanceUptoRow : OpenClaim := { program := "ytonnffilcmlodab", sum := "64ccc158844bea419c75b51dd93de54f5251e66331a31f0e16f48e54970c1870", func := "loop.example/lettersthatarrive/laws.FnArriveChance", spec := "fnArriveChance", unfollowed := true, recurses := true, apart := false, narrowed := true }
def FnArriveChanceUptoSaid : Prop := fnArriveChanceUptoRow.holds Try.pinned (OpenSpec.upto fnArriveChanceSpec)

/-- 'laws.FnLostAt', WHERE WHAT IT READS IS OF BULK AT MOST 1048576: true; the input reads as it did. -/
def fnLostAtUptoRow : OpenClaim := { program := "ytonnffilcmlodab", sum := "64ccc158844bea419c75b51dd93de54f5251e66331a31f0e16f48e54970c1870", func := "loop.example/lettersthatarrive/laws.FnLostAt", spec := "fnLostAt", unfollowed := true, recurses := true, apart := false, narrowed := true }
def FnLostAtUptoSaid : Prop := fnLostAtUptoRow.holds Try.pinned (OpenSpec.upto fnLostAtSpec)

/-- 'laws.FnLostIsNotArrived', WHERE WHAT IT READS IS OF BULK AT MOST 1048576: true; the input reads as it did. -/
def fnLostIsNotArrivedUptoRow : OpenClaim := { program := "ytonnffilcmlodab", sum := "64ccc158844bea419c75b51dd93de54f5251e66331a31f0e16f48e54970c1870", func := "loop.example/lettersthatarrive/laws.FnLostIsNotArrived", spec := "fnLostIsNotArrived", unfollowed := true, recurses := true, apart := false, narrowed := true }
def FnLostIsNotArrivedUptoSaid : Prop := fnLostIsNotArrivedUptoRow.holds Try.pinned (OpenSpec.upto fnLostIsNotArrivedSpec)

/-- 'laws.FnExactArriveChance', WHERE WHAT IT READS IS OF BULK AT MOST 1048576: true; the input reads as it did. -/
def fnExactArriveChanceUptoRow : OpenClaim := { program := "ytonnffilcmlodab", sum := "64ccc158844bea419c75b51dd93de54f5251e66331a31f0e16f48e54970c1870", func := "loop.example/lettersthatarrive/laws.FnExactArriveChance", spec := "fnExactArriveChance", unfollowed := true, recurses := true, apart := false, narrowed := true }
def FnExactArriveChanceUptoSaid : Prop := fnExactArriveChanceUptoRow.holds Try.pinned (OpenSpec.upto fnExactArriveChanceSpec)

/-- 'laws.FnExactLostAt', WHERE WHAT IT READS IS OF BULK AT MOST 1048576: true; the input reads as it did. -/
def fnExactLostAtUptoRow : OpenClaim := { program := "ytonnffilcmlodab", sum := "64ccc158844bea419c75b51dd93de54f5251e66331a31f0e16f48e54970c1870", func := "loop.example/lettersthatarrive/laws.FnExactLostAt", spec := "fnExactLostAt", unfollowed := true, recurses := true, apart := false, narrowed := true }
def FnExactLostAtUptoSaid : Prop := fnExactLostAtUptoRow.holds Try.pinned (OpenSpec.upto fnExactLostAtSpec)

end Rows
end Go.Proofs.Ytonnffilcmlodab
