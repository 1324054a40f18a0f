/-
  No cell of these rows narrows 'for every input' (looked for: loops, veiled, ifaces, maps, wideKeys, modest, calm, conditions, laid).
  DERIVED. THE GIVEN ROWS OF THIS SEAT. 5 by the template 'for every input the law returns true; each argument reads behind the call as it read before'; 0 by the template 'total and deterministic' (their statements: YtldbefmiabgkhabTotals.lean).
  GIVEN WITH THE SEED: the statements are not yours to turn. If you find one false, say at which input.
  Laid BY PROGRAM, IN A SANDBOX (cutbox-rows.mjs): the forced cells as the released guide's own fill.sh prints them over the translation 3a3d3a8b8cf0c911… (all of the seat's roots in one cut). By AI agents, Wed Nov 11 2026. No macro, syntax, notation, axiom, sorry.
-/
import Derived.Test.YtldbefmiabgkhabChecked
import GoSem.Claim
import GoSem.ClaimJoined
import GoSem.ClaimMapViews
import Derived.JoinedTies
import Derived.KernelRfl
namespace Go.Proofs.Ytldbefmiabgkhab
/- THE CELL 'sum', in the pinned program and in every row, IS THE sha256 OF THE DUMP (.gsa) THAT YtldbefmiabgkhabProg.lean LOADS. Nothing in Lean hashes anything: it is a label: what it is worth is what the hold of that sum in a sandbox is worth. -/
noncomputable def Try.pinned : Pinned := { name := "ytldbefmiabgkhab", sum := "3a3d3a8b8cf0c911fad2a6f0bb186754e7cfb1e5970020784fed0949a66ac292", checked := Try.checked }
namespace Rows
def none {H : Type} : Left H := { results := [], args := [] }

/-- 'laws.FnExactPeopleOf': WHATEVER THE INPUT: true; the input reads as it did. -/
def fnExactPeopleOfSpec : ChangeSpec := { name := "fnExactPeopleOf", fn := fun _ => fun
  | [d1, d2] => { results := [.lit (.bool true)], args := [d1, d2] }
  | _ => none }
def fnExactPeopleOfRow : OpenClaim := { program := "ytldbefmiabgkhab", sum := "3a3d3a8b8cf0c911fad2a6f0bb186754e7cfb1e5970020784fed0949a66ac292", func := "loop.example/lettersthatarrive/laws.FnExactPeopleOf", spec := "fnExactPeopleOf", unfollowed := true, recurses := true, apart := false }
def FnExactPeopleOfSaid : Prop := fnExactPeopleOfRow.holds Try.pinned (OpenSpec.ofChange fnExactPeopleOfSpec)

/-- ITS FALSE NEIGHBOUR: 'it returns false'. Refute it at one input. -/
def fnExactPeopleOfWrong : ChangeSpec := { name := "fnExactPeopleOf", fn := fun _ => fun
  | [d1, d2] => { results := [.lit (.bool false)], args := [d1, d2] }
  | _ => none }
def FnExactPeopleOfWrongFalsely : Prop := fnExactPeopleOfRow.holds Try.pinned (OpenSpec.ofChange fnExactPeopleOfWrong)

/-- 'laws.FnExactLoopsOf': WHATEVER THE INPUT: true; the input reads as it did. -/
def fnExactLoopsOfSpec : ChangeSpec := { name := "fnExactLoopsOf", fn := fun _ => fun
  | [d] => { results := [.lit (.bool true)], args := [d] }
  | _ => none }
def fnExactLoopsOfRow : OpenClaim := { program := "ytldbefmiabgkhab", sum := "3a3d3a8b8cf0c911fad2a6f0bb186754e7cfb1e5970020784fed0949a66ac292", func := "loop.example/lettersthatarrive/laws.FnExactLoopsOf", spec := "fnExactLoopsOf", apart := false }
def FnExactLoopsOfSaid : Prop := fnExactLoopsOfRow.holds Try.pinned (OpenSpec.ofChange fnExactLoopsOfSpec)

/-- ITS FALSE NEIGHBOUR: 'it returns false'. Refute it at one input. -/
def fnExactLoopsOfWrong : ChangeSpec := { name := "fnExactLoopsOf", fn := fun _ => fun
  | [d] => { results := [.lit (.bool false)], args := [d] }
  | _ => none }
def FnExactLoopsOfWrongFalsely : Prop := fnExactLoopsOfRow.holds Try.pinned (OpenSpec.ofChange fnExactLoopsOfWrong)

/-- 'laws.FnPeopleOf': WHATEVER THE INPUT: true; the input reads as it did. -/
def fnPeopleOfSpec : ChangeSpec := { name := "fnPeopleOf", fn := fun _ => fun
  | [d] => { results := [.lit (.bool true)], args := [d] }
  | _ => none }
def fnPeopleOfRow : OpenClaim := { program := "ytldbefmiabgkhab", sum := "3a3d3a8b8cf0c911fad2a6f0bb186754e7cfb1e5970020784fed0949a66ac292", func := "loop.example/lettersthatarrive/laws.FnPeopleOf", spec := "fnPeopleOf", unfollowed := true, recurses := true, apart := false }
def FnPeopleOfSaid : Prop := fnPeopleOfRow.holds Try.pinned (OpenSpec.ofChange fnPeopleOfSpec)

/-- ITS FALSE NEIGHBOUR: 'it returns false'. Refute it at one input. -/
def fnPeopleOfWrong : ChangeSpec := { name := "fnPeopleOf", fn := fun _ => fun
  | [d] => { results := [.lit (.bool false)], args := [d] }
  | _ => none }
def FnPeopleOfWrongFalsely : Prop := fnPeopleOfRow.holds Try.pinned (OpenSpec.ofChange fnPeopleOfWrong)

/-- 'laws.FnLoopsOf': WHATEVER THE INPUT: true; the input reads as it did. -/
def fnLoopsOfSpec : ChangeSpec := { name := "fnLoopsOf", fn := fun _ => fun
  | [d] => { results := [.lit (.bool true)], args := [d] }
  | _ => none }
def fnLoopsOfRow : OpenClaim := { program := "ytldbefmiabgkhab", sum := "3a3d3a8b8cf0c911fad2a6f0bb186754e7cfb1e5970020784fed0949a66ac292", func := "loop.example/lettersthatarrive/laws.FnLoopsOf", spec := "fnLoopsOf", apart := false }
def FnLoopsOfSaid : Prop := fnLoopsOfRow.holds Try.pinned (OpenSpec.ofChange fnLoopsOfSpec)

/-- ITS FALSE NEIGHBOUR: 'it returns false'. Refute it at one input. -/
def fnLoopsOfWrong : ChangeSpec := { name := "fnLoopsOf", fn := fun _ => fun
  | [d] => { results := [.lit (.bool false)], args := [d] }
  | _ => none }
def FnLoopsOfWrongFalsely : Prop := fnLoopsOfRow.holds Try.pinned (OpenSpec.ofChange fnLoopsOfWrong)

/-- 'laws.FnPeopleOnce': WHATEVER THE INPUT: true; the input reads as it did. -/
def fnPeopleOnceSpec : ChangeSpec := { name := "fnPeopleOnce", fn := fun _ => fun
  | [d] => { results := [.lit (.bool true)], args := [d] }
  | _ => none }
def fnPeopleOnceRow : OpenClaim := { program := "ytldbefmiabgkhab", sum := "3a3d3a8b8cf0c911fad2a6f0bb186754e7cfb1e5970020784fed0949a66ac292", func := "loop.example/lettersthatarrive/laws.FnPeopleOnce", spec := "fnPeopleOnce", unfollowed := true, recurses := true, apart := false }
def FnPeopleOnceSaid : Prop := fnPeopleOnceRow.holds Try.pinned (OpenSpec.ofChange fnPeopleOnceSpec)

/-- ITS FALSE NEIGHBOUR: 'it returns false'. Refute it at one input. -/
def fnPeopleOnceWrong : ChangeSpec := { name := "fnPeopleOnce", fn := fun _ => fun
  | [d] => { results := [.lit (.bool false)], args := [d] }
  | _ => none }
def FnPeopleOnceWrongFalsely : Prop := fnPeopleOnceRow.holds Try.pinned (OpenSpec.ofChange fnPeopleOnceWrong)

/- THE SECOND FORM. 'bulk': how many values and letters a reading holds, each counted each time it is reached (what is shared counts as often as it is met; a slice's spare places count too). A statement '..UptoSaid' is the law's where the arguments, and the package variables that the reading takes, are together of bulk at most 1048576: NARROWER than '..Said'. Prove '..Said' where nothing that the law and all that it calls make is longer than what came in: it says more and counts as full. Else prove '..UptoSaid'. A law counts once. -/
mutual
def uptoBulk {H : Type} : DataW H → Nat
  | .lit (.string bytes) => bytes.length + 1
  | .lit _ => 1
  | .nil => 1
  | .ptr d => uptoBulk d + 1
  | .slice elems spare => uptoBulkAll elems + uptoBulkAll spare + 1
  | .agg parts => uptoBulkAll parts + 1
  | .iface _ d => uptoBulk d + 1
  | .map entries => uptoBulkEntries entries + 1
  | .held _ => 1
def uptoBulkAll {H : Type} : List (DataW H) → Nat
  | [] => 0
  | d :: r => uptoBulk d + uptoBulkAll r
def uptoBulkEntries {H : Type} : List (Lit × DataW H) → Nat
  | [] => 0
  | x :: r => uptoBulkEntry x + uptoBulkEntries r
def uptoBulkEntry {H : Type} : Lit × DataW H → Nat
  | (.string bytes, d) => bytes.length + uptoBulk d + 1
  | (_, d) => uptoBulk d + 1
 end
def uptoSmall : (H : Type) → List (DataW H) → Bool := fun _ ds => decide (uptoBulkAll ds ≤ 1048576)
def OpenSpec.upto (s : _root_.Go.ChangeSpec) : _root_.Go.OpenSpec := { _root_.Go.OpenSpec.ofChange s with cond := some uptoSmall }

/-- 'laws.FnExactPeopleOf', WHERE WHAT IT READS IS OF BULK AT MOST 1048576: true; the input reads as it did. -/
def fnExactPeopleOfUptoRow : OpenClaim := { program := "ytldbefmiabgkhab", sum := "3a3d3a8b8cf0c911fad2a6f0bb186754e7cfb1e5970020784fed0949a66ac292", func := "loop.example/lettersthatarrive/laws.FnExactPeopleOf", spec := "fnExactPeopleOf", unfollowed := true, recurses := true, apart := false, narrowed := true }
def FnExactPeopleOfUptoSaid : Prop := fnExactPeopleOfUptoRow.holds Try.pinned (OpenSpec.upto fnExactPeopleOfSpec)

/-- 'laws.FnExactLoopsOf', WHERE WHAT IT READS IS OF BULK AT MOST 1048576: true; the input reads as it did. -/
def fnExactLoopsOfUptoRow : OpenClaim := { program := "ytldbefmiabgkhab", sum := "3a3d3a8b8cf0c911fad2a6f0bb186754e7cfb1e5970020784fed0949a66ac292", func := "loop.example/lettersthatarrive/laws.FnExactLoopsOf", spec := "fnExactLoopsOf", apart := false, narrowed := true }
def FnExactLoopsOfUptoSaid : Prop := fnExactLoopsOfUptoRow.holds Try.pinned (OpenSpec.upto fnExactLoopsOfSpec)

/-- 'laws.FnPeopleOf', WHERE WHAT IT READS IS OF BULK AT MOST 1048576: true; the input reads as it did. -/
def fnPeopleOfUptoRow : OpenClaim := { program := "ytldbefmiabgkhab", sum := "3a3d3a8b8cf0c911fad2a6f0bb186754e7cfb1e5970020784fed0949a66ac292", func := "loop.example/lettersthatarrive/laws.FnPeopleOf", spec := "fnPeopleOf", unfollowed := true, recurses := true, apart := false, narrowed := true }
def FnPeopleOfUptoSaid : Prop := fnPeopleOfUptoRow.holds Try.pinned (OpenSpec.upto fnPeopleOfSpec)

/-- 'laws.FnLoopsOf', WHERE WHAT IT READS IS OF BULK AT MOST 1048576: true; the input reads as it did. -/
def fnLoopsOfUptoRow : OpenClaim := { program := "ytldbefmiabgkhab", sum := "3a3d3a8b8cf0c911fad2a6f0bb186754e7cfb1e5970020784fed0949a66ac292", func := "loop.example/lettersthatarrive/laws.FnLoopsOf", spec := "fnLoopsOf", apart := false, narrowed := true }
def FnLoopsOfUptoSaid : Prop := fnLoopsOfUptoRow.holds Try.pinned (OpenSpec.upto fnLoopsOfSpec)

/-- 'laws.FnPeopleOnce', WHERE WHAT IT READS IS OF BULK AT MOST 1048576: true; the input reads as it did. -/
def fnPeopleOnceUptoRow : OpenClaim := { program := "ytldbefmiabgkhab", sum := "3a3d3a8b8cf0c911fad2a6f0bb186754e7cfb1e5970020784fed0949a66ac292", func := "loop.example/lettersthatarrive/laws.FnPeopleOnce", spec := "fnPeopleOnce", unfollowed := true, recurses := true, apart := false, narrowed := true }
def FnPeopleOnceUptoSaid : Prop := fnPeopleOnceUptoRow.holds Try.pinned (OpenSpec.upto fnPeopleOnceSpec)

end Rows
end Go.Proofs.Ytldbefmiabgkhab
