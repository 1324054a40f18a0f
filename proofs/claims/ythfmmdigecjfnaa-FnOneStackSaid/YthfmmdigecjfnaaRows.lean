/-
  No cell of these rows narrows 'for every input' (looked for: loops, veiled, ifaces, maps, wideKeys, modest, calm, conditions, laid).
  DERIVED. THE GIVEN ROWS OF THIS SEAT. 12 by the template 'for every input the law returns true; each argument reads behind the call as it read before'; 0 by the template 'total and deterministic' (their statements: YthfmmdigecjfnaaTotals.lean).
  GIVEN WITH THE SEED: the statements are not yours to turn. If you find one false, say at which input.
  Laid BY PROGRAM, IN A SANDBOX (cutbox-rows.mjs): the forced cells as the released guide's own fill.sh prints them over the translation a9842319e919f405… (all of the seat's roots in one cut). By AI agents, Wed Nov 11 2026. No macro, syntax, notation, axiom, sorry.
-/
import Derived.Test.YthfmmdigecjfnaaChecked
import GoSem.Claim
import GoSem.ClaimJoined
import GoSem.ClaimMapViews
import Derived.JoinedTies
import Derived.KernelRfl
namespace Go.Proofs.Ythfmmdigecjfnaa
/- THE CELL 'sum', in the pinned program and in every row, IS THE sha256 OF THE DUMP (.gsa) THAT YthfmmdigecjfnaaProg.lean LOADS. Nothing in Lean hashes anything: it is a label: what it is worth is what the hold of that sum in a sandbox is worth. -/
noncomputable def Try.pinned : Pinned := { name := "ythfmmdigecjfnaa", sum := "a9842319e919f405588ad09cac890f02b7ea3b0f0bb5047d04942dbac558fd94", checked := Try.checked }
namespace Rows
def none {H : Type} : Left H := { results := [], args := [] }

/-- 'laws.FnExactStacksOf': WHATEVER THE INPUT: true; the input reads as it did. -/
def fnExactStacksOfSpec : ChangeSpec := { name := "fnExactStacksOf", fn := fun _ => fun
  | [d] => { results := [.lit (.bool true)], args := [d] }
  | _ => none }
def fnExactStacksOfRow : OpenClaim := { program := "ythfmmdigecjfnaa", sum := "a9842319e919f405588ad09cac890f02b7ea3b0f0bb5047d04942dbac558fd94", func := "loop.example/lettersthatarrive/laws.FnExactStacksOf", spec := "fnExactStacksOf", unfollowed := true, recurses := true, apart := false }
def FnExactStacksOfSaid : Prop := fnExactStacksOfRow.holds Try.pinned (OpenSpec.ofChange fnExactStacksOfSpec)

/-- ITS FALSE NEIGHBOUR: 'it returns false'. Refute it at one input. -/
def fnExactStacksOfWrong : ChangeSpec := { name := "fnExactStacksOf", fn := fun _ => fun
  | [d] => { results := [.lit (.bool false)], args := [d] }
  | _ => none }
def FnExactStacksOfWrongFalsely : Prop := fnExactStacksOfRow.holds Try.pinned (OpenSpec.ofChange fnExactStacksOfWrong)

/-- 'laws.FnExactRisingOf': WHATEVER THE INPUT: true; the input reads as it did. -/
def fnExactRisingOfSpec : ChangeSpec := { name := "fnExactRisingOf", fn := fun _ => fun
  | [d] => { results := [.lit (.bool true)], args := [d] }
  | _ => none }
def fnExactRisingOfRow : OpenClaim := { program := "ythfmmdigecjfnaa", sum := "a9842319e919f405588ad09cac890f02b7ea3b0f0bb5047d04942dbac558fd94", func := "loop.example/lettersthatarrive/laws.FnExactRisingOf", spec := "fnExactRisingOf", apart := false }
def FnExactRisingOfSaid : Prop := fnExactRisingOfRow.holds Try.pinned (OpenSpec.ofChange fnExactRisingOfSpec)

/-- ITS FALSE NEIGHBOUR: 'it returns false'. Refute it at one input. -/
def fnExactRisingOfWrong : ChangeSpec := { name := "fnExactRisingOf", fn := fun _ => fun
  | [d] => { results := [.lit (.bool false)], args := [d] }
  | _ => none }
def FnExactRisingOfWrongFalsely : Prop := fnExactRisingOfRow.holds Try.pinned (OpenSpec.ofChange fnExactRisingOfWrong)

/-- 'laws.FnExactRisingRow': WHATEVER THE INPUT: true; the input reads as it did. -/
def fnExactRisingRowSpec : ChangeSpec := { name := "fnExactRisingRow", fn := fun _ => fun
  | [d] => { results := [.lit (.bool true)], args := [d] }
  | _ => none }
def fnExactRisingRowRow : OpenClaim := { program := "ythfmmdigecjfnaa", sum := "a9842319e919f405588ad09cac890f02b7ea3b0f0bb5047d04942dbac558fd94", func := "loop.example/lettersthatarrive/laws.FnExactRisingRow", spec := "fnExactRisingRow", apart := false }
def FnExactRisingRowSaid : Prop := fnExactRisingRowRow.holds Try.pinned (OpenSpec.ofChange fnExactRisingRowSpec)

/-- ITS FALSE NEIGHBOUR: 'it returns false'. Refute it at one input. -/
def fnExactRisingRowWrong : ChangeSpec := { name := "fnExactRisingRow", fn := fun _ => fun
  | [d] => { results := [.lit (.bool false)], args := [d] }
  | _ => none }
def FnExactRisingRowWrongFalsely : Prop := fnExactRisingRowRow.holds Try.pinned (OpenSpec.ofChange fnExactRisingRowWrong)

/-- 'laws.FnExactCanUnload': WHATEVER THE INPUT: true; the input reads as it did. -/
def fnExactCanUnloadSpec : ChangeSpec := { name := "fnExactCanUnload", fn := fun _ => fun
  | [d1, d2] => { results := [.lit (.bool true)], args := [d1, d2] }
  | _ => none }
def fnExactCanUnloadRow : OpenClaim := { program := "ythfmmdigecjfnaa", sum := "a9842319e919f405588ad09cac890f02b7ea3b0f0bb5047d04942dbac558fd94", func := "loop.example/lettersthatarrive/laws.FnExactCanUnload", spec := "fnExactCanUnload", apart := false }
def FnExactCanUnloadSaid : Prop := fnExactCanUnloadRow.holds Try.pinned (OpenSpec.ofChange fnExactCanUnloadSpec)

/-- ITS FALSE NEIGHBOUR: 'it returns false'. Refute it at one input. -/
def fnExactCanUnloadWrong : ChangeSpec := { name := "fnExactCanUnload", fn := fun _ => fun
  | [d1, d2] => { results := [.lit (.bool false)], args := [d1, d2] }
  | _ => none }
def FnExactCanUnloadWrongFalsely : Prop := fnExactCanUnloadRow.holds Try.pinned (OpenSpec.ofChange fnExactCanUnloadWrong)

/-- 'laws.FnExactOneStack': WHATEVER THE INPUT: true; the input reads as it did. -/
def fnExactOneStackSpec : ChangeSpec := { name := "fnExactOneStack", fn := fun _ => fun
  | [d] => { results := [.lit (.bool true)], args := [d] }
  | _ => none }
def fnExactOneStackRow : OpenClaim := { program := "ythfmmdigecjfnaa", sum := "a9842319e919f405588ad09cac890f02b7ea3b0f0bb5047d04942dbac558fd94", func := "loop.example/lettersthatarrive/laws.FnExactOneStack", spec := "fnExactOneStack", apart := false }
def FnExactOneStackSaid : Prop := fnExactOneStackRow.holds Try.pinned (OpenSpec.ofChange fnExactOneStackSpec)

/-- ITS FALSE NEIGHBOUR: 'it returns false'. Refute it at one input. -/
def fnExactOneStackWrong : ChangeSpec := { name := "fnExactOneStack", fn := fun _ => fun
  | [d] => { results := [.lit (.bool false)], args := [d] }
  | _ => none }
def FnExactOneStackWrongFalsely : Prop := fnExactOneStackRow.holds Try.pinned (OpenSpec.ofChange fnExactOneStackWrong)

/-- 'laws.FnStacksOf': WHATEVER THE INPUT: true; the input reads as it did. -/
def fnStacksOfSpec : ChangeSpec := { name := "fnStacksOf", fn := fun _ => fun
  | [d] => { results := [.lit (.bool true)], args := [d] }
  | _ => none }
def fnStacksOfRow : OpenClaim := { program := "ythfmmdigecjfnaa", sum := "a9842319e919f405588ad09cac890f02b7ea3b0f0bb5047d04942dbac558fd94", func := "loop.example/lettersthatarrive/laws.FnStacksOf", spec := "fnStacksOf", unfollowed := true, recurses := true, apart := false }
def FnStacksOfSaid : Prop := fnStacksOfRow.holds Try.pinned (OpenSpec.ofChange fnStacksOfSpec)

/-- ITS FALSE NEIGHBOUR: 'it returns false'. Refute it at one input. -/
def fnStacksOfWrong : ChangeSpec := { name := "fnStacksOf", fn := fun _ => fun
  | [d] => { results := [.lit (.bool false)], args := [d] }
  | _ => none }
def FnStacksOfWrongFalsely : Prop := fnStacksOfRow.holds Try.pinned (OpenSpec.ofChange fnStacksOfWrong)

/-- 'laws.FnRisingOf': WHATEVER THE INPUT: true; the input reads as it did. -/
def fnRisingOfSpec : ChangeSpec := { name := "fnRisingOf", fn := fun _ => fun
  | [d] => { results := [.lit (.bool true)], args := [d] }
  | _ => none }
def fnRisingOfRow : OpenClaim := { program := "ythfmmdigecjfnaa", sum := "a9842319e919f405588ad09cac890f02b7ea3b0f0bb5047d04942dbac558fd94", func := "loop.example/lettersthatarrive/laws.FnRisingOf", spec := "fnRisingOf", apart := false }
def FnRisingOfSaid : Prop := fnRisingOfRow.holds Try.pinned (OpenSpec.ofChange fnRisingOfSpec)

/-- ITS FALSE NEIGHBOUR: 'it returns false'. Refute it at one input. -/
def fnRisingOfWrong : ChangeSpec := { name := "fnRisingOf", fn := fun _ => fun
  | [d] => { results := [.lit (.bool false)], args := [d] }
  | _ => none }
def FnRisingOfWrongFalsely : Prop := fnRisingOfRow.holds Try.pinned (OpenSpec.ofChange fnRisingOfWrong)

/-- 'laws.FnRisingRow': WHATEVER THE INPUT: true; the input reads as it did. -/
def fnRisingRowSpec : ChangeSpec := { name := "fnRisingRow", fn := fun _ => fun
  | [d] => { results := [.lit (.bool true)], args := [d] }
  | _ => none }
def fnRisingRowRow : OpenClaim := { program := "ythfmmdigecjfnaa", sum := "a9842319e919f405588ad09cac890f02b7ea3b0f0bb5047d04942dbac558fd94", func := "loop.example/lettersthatarrive/laws.FnRisingRow", spec := "fnRisingRow", apart := false }
def FnRisingRowSaid : Prop := fnRisingRowRow.holds Try.pinned (OpenSpec.ofChange fnRisingRowSpec)

/-- ITS FALSE NEIGHBOUR: 'it returns false'. Refute it at one input. -/
def fnRisingRowWrong : ChangeSpec := { name := "fnRisingRow", fn := fun _ => fun
  | [d] => { results := [.lit (.bool false)], args := [d] }
  | _ => none }
def FnRisingRowWrongFalsely : Prop := fnRisingRowRow.holds Try.pinned (OpenSpec.ofChange fnRisingRowWrong)

/-- 'laws.FnCanUnload': WHATEVER THE INPUT: true; the input reads as it did. -/
def fnCanUnloadSpec : ChangeSpec := { name := "fnCanUnload", fn := fun _ => fun
  | [d] => { results := [.lit (.bool true)], args := [d] }
  | _ => none }
def fnCanUnloadRow : OpenClaim := { program := "ythfmmdigecjfnaa", sum := "a9842319e919f405588ad09cac890f02b7ea3b0f0bb5047d04942dbac558fd94", func := "loop.example/lettersthatarrive/laws.FnCanUnload", spec := "fnCanUnload", apart := false }
def FnCanUnloadSaid : Prop := fnCanUnloadRow.holds Try.pinned (OpenSpec.ofChange fnCanUnloadSpec)

/-- ITS FALSE NEIGHBOUR: 'it returns false'. Refute it at one input. -/
def fnCanUnloadWrong : ChangeSpec := { name := "fnCanUnload", fn := fun _ => fun
  | [d] => { results := [.lit (.bool false)], args := [d] }
  | _ => none }
def FnCanUnloadWrongFalsely : Prop := fnCanUnloadRow.holds Try.pinned (OpenSpec.ofChange fnCanUnloadWrong)

/-- 'laws.FnOneStack': WHATEVER THE INPUT: true; the input reads as it did. -/
def fnOneStackSpec : ChangeSpec := { name := "fnOneStack", fn := fun _ => fun
  | [d] => { results := [.lit (.bool true)], args := [d] }
  | _ => none }
def fnOneStackRow : OpenClaim := { program := "ythfmmdigecjfnaa", sum := "a9842319e919f405588ad09cac890f02b7ea3b0f0bb5047d04942dbac558fd94", func := "loop.example/lettersthatarrive/laws.FnOneStack", spec := "fnOneStack", apart := false }
def FnOneStackSaid : Prop := fnOneStackRow.holds Try.pinned (OpenSpec.ofChange fnOneStackSpec)

/-- ITS FALSE NEIGHBOUR: 'it returns false'. Refute it at one input. -/
def fnOneStackWrong : ChangeSpec := { name := "fnOneStack", fn := fun _ => fun
  | [d] => { results := [.lit (.bool false)], args := [d] }
  | _ => none }
def FnOneStackWrongFalsely : Prop := fnOneStackRow.holds Try.pinned (OpenSpec.ofChange fnOneStackWrong)

/-- 'laws.FnStacksBackwards': WHATEVER THE INPUT: true; the input reads as it did. -/
def fnStacksBackwardsSpec : ChangeSpec := { name := "fnStacksBackwards", fn := fun _ => fun
  | [d] => { results := [.lit (.bool true)], args := [d] }
  | _ => none }
def fnStacksBackwardsRow : OpenClaim := { program := "ythfmmdigecjfnaa", sum := "a9842319e919f405588ad09cac890f02b7ea3b0f0bb5047d04942dbac558fd94", func := "loop.example/lettersthatarrive/laws.FnStacksBackwards", spec := "fnStacksBackwards", apart := false }
def FnStacksBackwardsSaid : Prop := fnStacksBackwardsRow.holds Try.pinned (OpenSpec.ofChange fnStacksBackwardsSpec)

/-- ITS FALSE NEIGHBOUR: 'it returns false'. Refute it at one input. -/
def fnStacksBackwardsWrong : ChangeSpec := { name := "fnStacksBackwards", fn := fun _ => fun
  | [d] => { results := [.lit (.bool false)], args := [d] }
  | _ => none }
def FnStacksBackwardsWrongFalsely : Prop := fnStacksBackwardsRow.holds Try.pinned (OpenSpec.ofChange fnStacksBackwardsWrong)

/-- 'laws.FnStackAgain': WHATEVER THE INPUT: true; the input reads as it did. -/
def fnStackAgainSpec : ChangeSpec := { name := "fnStackAgain", fn := fun _ => fun
  | [d] => { results := [.lit (.bool true)], args := [d] }
  | _ => none }
def fnStackAgainRow : OpenClaim := { program := "ythfmmdigecjfnaa", sum := "a9842319e919f405588ad09cac890f02b7ea3b0f0bb5047d04942dbac558fd94", func := "loop.example/lettersthatarrive/laws.FnStackAgain", spec := "fnStackAgain", apart := false }
def FnStackAgainSaid : Prop := fnStackAgainRow.holds Try.pinned (OpenSpec.ofChange fnStackAgainSpec)

/-- ITS FALSE NEIGHBOUR: 'it returns false'. Refute it at one input. -/
def fnStackAgainWrong : ChangeSpec := { name := "fnStackAgain", fn := fun _ => fun
  | [d] => { results := [.lit (.bool false)], args := [d] }
  | _ => none }
def FnStackAgainWrongFalsely : Prop := fnStackAgainRow.holds Try.pinned (OpenSpec.ofChange fnStackAgainWrong)

/- THE SECOND FORM. 'bulk': how many values and letters a reading holds, each counted each time it is reached (what is shared counts as often as it is met; a slice's spare places count too). A statement '..UptoSaid' is the law's where the arguments, and the package variables that the reading takes, are together of bulk at most 1048576: NARROWER than '..Said'. Prove '..Said' where nothing that the law and all that it calls make is longer than what came in: it says more and counts as full. Else prove '..UptoSaid'. A law counts once. -/
mutual
def uptoBulk {H : Type} : DataW H → Nat
  | .lit (.string bytes) => bytes.length + 1
  | .lit _ => 1
  | .nil => 1
  | .ptr d => uptoBulk d + 1
  | .slice elems spare => uptoBulkAll elems + uptoBulkAll spare + 1
  | .agg parts => uptoBulkAll parts + 1
  | .iface _ d => uptoBulk d + 1
  | .map entries => uptoBulkEntries entries + 1
  | .held _ => 1
def uptoBulkAll {H : Type} : List (DataW H) → Nat
  | [] => 0
  | d :: r => uptoBulk d + uptoBulkAll r
def uptoBulkEntries {H : Type} : List (Lit × DataW H) → Nat
  | [] => 0
  | x :: r => uptoBulkEntry x + uptoBulkEntries r
def uptoBulkEntry {H : Type} : Lit × DataW H → Nat
  | (.string bytes, d) => bytes.length + uptoBulk d + 1
  | (_, d) => uptoBulk d + 1
 end
def uptoSmall : (H : Type) → List (DataW H) → Bool := fun _ ds => decide (uptoBulkAll ds ≤ 1048576)
def OpenSpec.upto (s : _root_.Go.ChangeSpec) : _root_.Go.OpenSpec := { _root_.Go.OpenSpec.ofChange s with cond := some uptoSmall }

/-- 'laws.FnExactStacksOf', WHERE WHAT IT READS IS OF BULK AT MOST 1048576: true; the input reads as it did. -/
def fnExactStacksOfUptoRow : OpenClaim := { program := "ythfmmdigecjfnaa", sum := "a9842319e919f405588ad09cac890f02b7ea3b0f0bb5047d04942dbac558fd94", func := "loop.example/lettersthatarrive/laws.FnExactStacksOf", spec := "fnExactStacksOf", unfollowed := true, recurses := true, apart := false, narrowed := true }
def FnExactStacksOfUptoSaid : Prop := fnExactStacksOfUptoRow.holds Try.pinned (OpenSpec.upto fnExactStacksOfSpec)

/-- 'laws.FnExactRisingOf', WHERE WHAT IT READS IS OF BULK AT MOST 1048576: true; the input reads as it did. -/
def fnExactRisingOfUptoRow : OpenClaim := { program := "ythfmmdigecjfnaa", sum := "a9842319e919f405588ad09cac890f02b7ea3b0f0bb5047d04942dbac558fd94", func := "loop.example/lettersthatarrive/laws.FnExactRisingOf", spec := "fnExactRisingOf", apart := false, narrowed := true }
def FnExactRisingOfUptoSaid : Prop := fnExactRisingOfUptoRow.holds Try.pinned (OpenSpec.upto fnExactRisingOfSpec)

/-- 'laws.FnExactRisingRow', WHERE WHAT IT READS IS OF BULK AT MOST 1048576: true; the input reads as it did. -/
def fnExactRisingRowUptoRow : OpenClaim := { program := "ythfmmdigecjfnaa", sum := "a9842319e919f405588ad09cac890f02b7ea3b0f0bb5047d04942dbac558fd94", func := "loop.example/lettersthatarrive/laws.FnExactRisingRow", spec := "fnExactRisingRow", apart := false, narrowed := true }
def FnExactRisingRowUptoSaid : Prop := fnExactRisingRowUptoRow.holds Try.pinned (OpenSpec.upto fnExactRisingRowSpec)

/-- 'laws.FnExactCanUnload', WHERE WHAT IT READS IS OF BULK AT MOST 1048576: true; the input reads as it did. -/
def fnExactCanUnloadUptoRow : OpenClaim := { program := "ythfmmdigecjfnaa", sum := "a9842319e919f405588ad09cac890f02b7ea3b0f0bb5047d04942dbac558fd94", func := "loop.example/lettersthatarrive/laws.FnExactCanUnload", spec := "fnExactCanUnload", apart := false, narrowed := true }
def FnExactCanUnloadUptoSaid : Prop := fnExactCanUnloadUptoRow.holds Try.pinned (OpenSpec.upto fnExactCanUnloadSpec)

/-- 'laws.FnExactOneStack', WHERE WHAT IT READS IS OF BULK AT MOST 1048576: true; the input reads as it did. -/
def fnExactOneStackUptoRow : OpenClaim := { program := "ythfmmdigecjfnaa", sum := "a9842319e919f405588ad09cac890f02b7ea3b0f0bb5047d04942dbac558fd94", func := "loop.example/lettersthatarrive/laws.FnExactOneStack", spec := "fnExactOneStack", apart := false, narrowed := true }
def FnExactOneStackUptoSaid : Prop := fnExactOneStackUptoRow.holds Try.pinned (OpenSpec.upto fnExactOneStackSpec)

/-- 'laws.FnStacksOf', WHERE WHAT IT READS IS OF BULK AT MOST 1048576: true; the input reads as it did. -/
def fnStacksOfUptoRow : OpenClaim := { program := "ythfmmdigecjfnaa", sum := "a9842319e919f405588ad09cac890f02b7ea3b0f0bb5047d04942dbac558fd94", func := "loop.example/lettersthatarrive/laws.FnStacksOf", spec := "fnStacksOf", unfollowed := true, recurses := true, apart := false, narrowed := true }
def FnStacksOfUptoSaid : Prop := fnStacksOfUptoRow.holds Try.pinned (OpenSpec.upto fnStacksOfSpec)

/-- 'laws.FnRisingOf', WHERE WHAT IT READS IS OF BULK AT MOST 1048576: true; the input reads as it did. -/
def fnRisingOfUptoRow : OpenClaim := { program := "ythfmmdigecjfnaa", sum := "a9842319e919f405588ad09cac890f02b7ea3b0f0bb5047d04942dbac558fd94", func := "loop.example/lettersthatarrive/laws.FnRisingOf", spec := "fnRisingOf", apart := false, narrowed := true }
def FnRisingOfUptoSaid : Prop := fnRisingOfUptoRow.holds Try.pinned (OpenSpec.upto fnRisingOfSpec)

/-- 'laws.FnRisingRow', WHERE WHAT IT READS IS OF BULK AT MOST 1048576: true; the input reads as it did. -/
def fnRisingRowUptoRow : OpenClaim := { program := "ythfmmdigecjfnaa", sum := "a9842319e919f405588ad09cac890f02b7ea3b0f0bb5047d04942dbac558fd94", func := "loop.example/lettersthatarrive/laws.FnRisingRow", spec := "fnRisingRow", apart := false, narrowed := true }
def FnRisingRowUptoSaid : Prop := fnRisingRowUptoRow.holds Try.pinned (OpenSpec.upto fnRisingRowSpec)

/-- 'laws.FnCanUnload', WHERE WHAT IT READS IS OF BULK AT MOST 1048576: true; the input reads as it did. -/
def fnCanUnloadUptoRow : OpenClaim := { program := "ythfmmdigecjfnaa", sum := "a9842319e919f405588ad09cac890f02b7ea3b0f0bb5047d04942dbac558fd94", func := "loop.example/lettersthatarrive/laws.FnCanUnload", spec := "fnCanUnload", apart := false, narrowed := true }
def FnCanUnloadUptoSaid : Prop := fnCanUnloadUptoRow.holds Try.pinned (OpenSpec.upto fnCanUnloadSpec)

/-- 'laws.FnOneStack', WHERE WHAT IT READS IS OF BULK AT MOST 1048576: true; the input reads as it did. -/
def fnOneStackUptoRow : OpenClaim := { program := "ythfmmdigecjfnaa", sum := "a9842319e919f405588ad09cac890f02b7ea3b0f0bb5047d04942dbac558fd94", func := "loop.example/lettersthatarrive/laws.FnOneStack", spec := "fnOneStack", apart := false, narrowed := true }
def FnOneStackUptoSaid : Prop := fnOneStackUptoRow.holds Try.pinned (OpenSpec.upto fnOneStackSpec)

/-- 'laws.FnStacksBackwards', WHERE WHAT IT READS IS OF BULK AT MOST 1048576: true; the input reads as it did. -/
def fnStacksBackwardsUptoRow : OpenClaim := { program := "ythfmmdigecjfnaa", sum := "a9842319e919f405588ad09cac890f02b7ea3b0f0bb5047d04942dbac558fd94", func := "loop.example/lettersthatarrive/laws.FnStacksBackwards", spec := "fnStacksBackwards", apart := false, narrowed := true }
def FnStacksBackwardsUptoSaid : Prop := fnStacksBackwardsUptoRow.holds Try.pinned (OpenSpec.upto fnStacksBackwardsSpec)

/-- 'laws.FnStackAgain', WHERE WHAT IT READS IS OF BULK AT MOST 1048576: true; the input reads as it did. -/
def fnStackAgainUptoRow : OpenClaim := { program := "ythfmmdigecjfnaa", sum := "a9842319e919f405588ad09cac890f02b7ea3b0f0bb5047d04942dbac558fd94", func := "loop.example/lettersthatarrive/laws.FnStackAgain", spec := "fnStackAgain", apart := false, narrowed := true }
def FnStackAgainUptoSaid : Prop := fnStackAgainUptoRow.holds Try.pinned (OpenSpec.upto fnStackAgainSpec)

end Rows
end Go.Proofs.Ythfmmdigecjfnaa
