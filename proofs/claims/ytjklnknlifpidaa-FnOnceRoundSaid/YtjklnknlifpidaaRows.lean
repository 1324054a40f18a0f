/-
  No cell of these rows narrows 'for every input' (looked for: loops, veiled, ifaces, maps, wideKeys, modest, calm, conditions, laid).
  DERIVED. THE GIVEN ROWS OF THIS SEAT. 6 by the template 'for every input the law returns true; each argument reads behind the call as it read before'; 0 by the template 'total and deterministic' (their statements: YtjklnknlifpidaaTotals.lean).
  GIVEN WITH THE SEED: the statements are not yours to turn. If you find one false, say at which input.
  Laid BY PROGRAM, IN A SANDBOX (cutbox-rows.mjs): the forced cells as the released guide's own fill.sh prints them over the translation a61017d6f3a4d4e0… (all of the seat's roots in one cut). By AI agents, Wed Nov 11 2026. No macro, syntax, notation, axiom, sorry.
-/
import Derived.Test.YtjklnknlifpidaaChecked
import GoSem.Claim
import GoSem.ClaimJoined
import GoSem.ClaimMapViews
import Derived.JoinedTies
import Derived.KernelRfl
namespace Go.Proofs.Ytjklnknlifpidaa
/- THE CELL 'sum', in the pinned program and in every row, IS THE sha256 OF THE DUMP (.gsa) THAT YtjklnknlifpidaaProg.lean LOADS. Nothing in Lean hashes anything: it is a label: what it is worth is what the hold of that sum in a sandbox is worth. -/
noncomputable def Try.pinned : Pinned := { name := "ytjklnknlifpidaa", sum := "a61017d6f3a4d4e0c2097d11c7e436c229b49b232343e949094e16dbd02143bd", checked := Try.checked }
namespace Rows
def none {H : Type} : Left H := { results := [], args := [] }

/-- 'laws.FnExactOnceRound': WHATEVER THE INPUT: true; the input reads as it did. -/
def fnExactOnceRoundSpec : ChangeSpec := { name := "fnExactOnceRound", fn := fun _ => fun
  | [d1, d2] => { results := [.lit (.bool true)], args := [d1, d2] }
  | _ => none }
def fnExactOnceRoundRow : OpenClaim := { program := "ytjklnknlifpidaa", sum := "a61017d6f3a4d4e0c2097d11c7e436c229b49b232343e949094e16dbd02143bd", func := "loop.example/lettersthatarrive/laws.FnExactOnceRound", spec := "fnExactOnceRound", unfollowed := true, recurses := true, apart := false }
def FnExactOnceRoundSaid : Prop := fnExactOnceRoundRow.holds Try.pinned (OpenSpec.ofChange fnExactOnceRoundSpec)

/-- ITS FALSE NEIGHBOUR: 'it returns false'. Refute it at one input. -/
def fnExactOnceRoundWrong : ChangeSpec := { name := "fnExactOnceRound", fn := fun _ => fun
  | [d1, d2] => { results := [.lit (.bool false)], args := [d1, d2] }
  | _ => none }
def FnExactOnceRoundWrongFalsely : Prop := fnExactOnceRoundRow.holds Try.pinned (OpenSpec.ofChange fnExactOnceRoundWrong)

/-- 'laws.FnOnceRound': WHATEVER THE INPUT: true; the input reads as it did. -/
def fnOnceRoundSpec : ChangeSpec := { name := "fnOnceRound", fn := fun _ => fun
  | [d] => { results := [.lit (.bool true)], args := [d] }
  | _ => none }
def fnOnceRoundRow : OpenClaim := { program := "ytjklnknlifpidaa", sum := "a61017d6f3a4d4e0c2097d11c7e436c229b49b232343e949094e16dbd02143bd", func := "loop.example/lettersthatarrive/laws.FnOnceRound", spec := "fnOnceRound", unfollowed := true, recurses := true, apart := false }
def FnOnceRoundSaid : Prop := fnOnceRoundRow.holds Try.pinned (OpenSpec.ofChange fnOnceRoundSpec)

/-- ITS FALSE NEIGHBOUR: 'it returns false'. Refute it at one input. -/
def fnOnceRoundWrong : ChangeSpec := { name := "fnOnceRound", fn := fun _ => fun
  | [d] => { results := [.lit (.bool false)], args := [d] }
  | _ => none }
def FnOnceRoundWrongFalsely : Prop := fnOnceRoundRow.holds Try.pinned (OpenSpec.ofChange fnOnceRoundWrong)

/-- 'laws.FnRoundsOfTwice': WHATEVER THE INPUT: true; the input reads as it did. -/
def fnRoundsOfTwiceSpec : ChangeSpec := { name := "fnRoundsOfTwice", fn := fun _ => fun
  | [d] => { results := [.lit (.bool true)], args := [d] }
  | _ => none }
def fnRoundsOfTwiceRow : OpenClaim := { program := "ytjklnknlifpidaa", sum := "a61017d6f3a4d4e0c2097d11c7e436c229b49b232343e949094e16dbd02143bd", func := "loop.example/lettersthatarrive/laws.FnRoundsOfTwice", spec := "fnRoundsOfTwice", unfollowed := true, recurses := true, apart := false }
def FnRoundsOfTwiceSaid : Prop := fnRoundsOfTwiceRow.holds Try.pinned (OpenSpec.ofChange fnRoundsOfTwiceSpec)

/-- ITS FALSE NEIGHBOUR: 'it returns false'. Refute it at one input. -/
def fnRoundsOfTwiceWrong : ChangeSpec := { name := "fnRoundsOfTwice", fn := fun _ => fun
  | [d] => { results := [.lit (.bool false)], args := [d] }
  | _ => none }
def FnRoundsOfTwiceWrongFalsely : Prop := fnRoundsOfTwiceRow.holds Try.pinned (OpenSpec.ofChange fnRoundsOfTwiceWrong)

/-- 'laws.FnExactRoundTried': WHATEVER THE INPUT: true; the input reads as it did. -/
def fnExactRoundTriedSpec : ChangeSpec := { name := "fnExactRoundTried", fn := fun _ => fun
  | [d1, d2] => { results := [.lit (.bool true)], args := [d1, d2] }
  | _ => none }
def fnExactRoundTriedRow : OpenClaim := { program := "ytjklnknlifpidaa", sum := "a61017d6f3a4d4e0c2097d11c7e436c229b49b232343e949094e16dbd02143bd", func := "loop.example/lettersthatarrive/laws.FnExactRoundTried", spec := "fnExactRoundTried", apart := false }
def FnExactRoundTriedSaid : Prop := fnExactRoundTriedRow.holds Try.pinned (OpenSpec.ofChange fnExactRoundTriedSpec)

/-- ITS FALSE NEIGHBOUR: 'it returns false'. Refute it at one input. -/
def fnExactRoundTriedWrong : ChangeSpec := { name := "fnExactRoundTried", fn := fun _ => fun
  | [d1, d2] => { results := [.lit (.bool false)], args := [d1, d2] }
  | _ => none }
def FnExactRoundTriedWrongFalsely : Prop := fnExactRoundTriedRow.holds Try.pinned (OpenSpec.ofChange fnExactRoundTriedWrong)

/-- 'laws.FnRoundTried': WHATEVER THE INPUT: true; the input reads as it did. -/
def fnRoundTriedSpec : ChangeSpec := { name := "fnRoundTried", fn := fun _ => fun
  | [d] => { results := [.lit (.bool true)], args := [d] }
  | _ => none }
def fnRoundTriedRow : OpenClaim := { program := "ytjklnknlifpidaa", sum := "a61017d6f3a4d4e0c2097d11c7e436c229b49b232343e949094e16dbd02143bd", func := "loop.example/lettersthatarrive/laws.FnRoundTried", spec := "fnRoundTried", apart := false }
def FnRoundTriedSaid : Prop := fnRoundTriedRow.holds Try.pinned (OpenSpec.ofChange fnRoundTriedSpec)

/-- ITS FALSE NEIGHBOUR: 'it returns false'. Refute it at one input. -/
def fnRoundTriedWrong : ChangeSpec := { name := "fnRoundTried", fn := fun _ => fun
  | [d] => { results := [.lit (.bool false)], args := [d] }
  | _ => none }
def FnRoundTriedWrongFalsely : Prop := fnRoundTriedRow.holds Try.pinned (OpenSpec.ofChange fnRoundTriedWrong)

/-- 'laws.FnRoundCost': WHATEVER THE INPUT: true; the input reads as it did. -/
def fnRoundCostSpec : ChangeSpec := { name := "fnRoundCost", fn := fun _ => fun
  | [d] => { results := [.lit (.bool true)], args := [d] }
  | _ => none }
def fnRoundCostRow : OpenClaim := { program := "ytjklnknlifpidaa", sum := "a61017d6f3a4d4e0c2097d11c7e436c229b49b232343e949094e16dbd02143bd", func := "loop.example/lettersthatarrive/laws.FnRoundCost", spec := "fnRoundCost", recurses := true, apart := false }
def FnRoundCostSaid : Prop := fnRoundCostRow.holds Try.pinned (OpenSpec.ofChange fnRoundCostSpec)

/-- ITS FALSE NEIGHBOUR: 'it returns false'. Refute it at one input. -/
def fnRoundCostWrong : ChangeSpec := { name := "fnRoundCost", fn := fun _ => fun
  | [d] => { results := [.lit (.bool false)], args := [d] }
  | _ => none }
def FnRoundCostWrongFalsely : Prop := fnRoundCostRow.holds Try.pinned (OpenSpec.ofChange fnRoundCostWrong)

/- THE SECOND FORM. 'bulk': how many values and letters a reading holds, each counted each time it is reached (what is shared counts as often as it is met; a slice's spare places count too). A statement '..UptoSaid' is the law's where the arguments, and the package variables that the reading takes, are together of bulk at most 1048576: NARROWER than '..Said'. Prove '..Said' where nothing that the law and all that it calls make is longer than what came in: it says more and counts as full. Else prove '..UptoSaid'. A law counts once. -/
mutual
def uptoBulk {H : Type} : DataW H → Nat
  | .lit (.string bytes) => bytes.length + 1
  | .lit _ => 1
  | .nil => 1
  | .ptr d => uptoBulk d + 1
  | .slice elems spare => uptoBulkAll elems + uptoBulkAll spare + 1
  | .agg parts => uptoBulkAll parts + 1
  | .iface _ d => uptoBulk d + 1
  | .map entries => uptoBulkEntries entries + 1
  | .held _ => 1
def uptoBulkAll {H : Type} : List (DataW H) → Nat
  | [] => 0
  | d :: r => uptoBulk d + uptoBulkAll r
def uptoBulkEntries {H : Type} : List (Lit × DataW H) → Nat
  | [] => 0
  | x :: r => uptoBulkEntry x + uptoBulkEntries r
def uptoBulkEntry {H : Type} : Lit × DataW H → Nat
  | (.string bytes, d) => bytes.length + uptoBulk d + 1
  | (_, d) => uptoBulk d + 1
 end
def uptoSmall : (H : Type) → List (DataW H) → Bool := fun _ ds => decide (uptoBulkAll ds ≤ 1048576)
def OpenSpec.upto (s : _root_.Go.ChangeSpec) : _root_.Go.OpenSpec := { _root_.Go.OpenSpec.ofChange s with cond := some uptoSmall }

/-- 'laws.FnExactOnceRound', WHERE WHAT IT READS IS OF BULK AT MOST 1048576: true; the input reads as it did. -/
def fnExactOnceRoundUptoRow : OpenClaim := { program := "ytjklnknlifpidaa", sum := "a61017d6f3a4d4e0c2097d11c7e436c229b49b232343e949094e16dbd02143bd", func := "loop.example/lettersthatarrive/laws.FnExactOnceRound", spec := "fnExactOnceRound", unfollowed := true, recurses := true, apart := false, narrowed := true }
def FnExactOnceRoundUptoSaid : Prop := fnExactOnceRoundUptoRow.holds Try.pinned (OpenSpec.upto fnExactOnceRoundSpec)

/-- 'laws.FnOnceRound', WHERE WHAT IT READS IS OF BULK AT MOST 1048576: true; the input reads as it did. -/
def fnOnceRoundUptoRow : OpenClaim := { program := "ytjklnknlifpidaa", sum := "a61017d6f3a4d4e0c2097d11c7e436c229b49b232343e949094e16dbd02143bd", func := "loop.example/lettersthatarrive/laws.FnOnceRound", spec := "fnOnceRound", unfollowed := true, recurses := true, apart := false, narrowed := true }
def FnOnceRoundUptoSaid : Prop := fnOnceRoundUptoRow.holds Try.pinned (OpenSpec.upto fnOnceRoundSpec)

/-- 'laws.FnRoundsOfTwice', WHERE WHAT IT READS IS OF BULK AT MOST 1048576: true; the input reads as it did. -/
def fnRoundsOfTwiceUptoRow : OpenClaim := { program := "ytjklnknlifpidaa", sum := "a61017d6f3a4d4e0c2097d11c7e436c229b49b232343e949094e16dbd02143bd", func := "loop.example/lettersthatarrive/laws.FnRoundsOfTwice", spec := "fnRoundsOfTwice", unfollowed := true, recurses := true, apart := false, narrowed := true }
def FnRoundsOfTwiceUptoSaid : Prop := fnRoundsOfTwiceUptoRow.holds Try.pinned (OpenSpec.upto fnRoundsOfTwiceSpec)

/-- 'laws.FnExactRoundTried', WHERE WHAT IT READS IS OF BULK AT MOST 1048576: true; the input reads as it did. -/
def fnExactRoundTriedUptoRow : OpenClaim := { program := "ytjklnknlifpidaa", sum := "a61017d6f3a4d4e0c2097d11c7e436c229b49b232343e949094e16dbd02143bd", func := "loop.example/lettersthatarrive/laws.FnExactRoundTried", spec := "fnExactRoundTried", apart := false, narrowed := true }
def FnExactRoundTriedUptoSaid : Prop := fnExactRoundTriedUptoRow.holds Try.pinned (OpenSpec.upto fnExactRoundTriedSpec)

/-- 'laws.FnRoundTried', WHERE WHAT IT READS IS OF BULK AT MOST 1048576: true; the input reads as it did. -/
def fnRoundTriedUptoRow : OpenClaim := { program := "ytjklnknlifpidaa", sum := "a61017d6f3a4d4e0c2097d11c7e436c229b49b232343e949094e16dbd02143bd", func := "loop.example/lettersthatarrive/laws.FnRoundTried", spec := "fnRoundTried", apart := false, narrowed := true }
def FnRoundTriedUptoSaid : Prop := fnRoundTriedUptoRow.holds Try.pinned (OpenSpec.upto fnRoundTriedSpec)

/-- 'laws.FnRoundCost', WHERE WHAT IT READS IS OF BULK AT MOST 1048576: true; the input reads as it did. -/
def fnRoundCostUptoRow : OpenClaim := { program := "ytjklnknlifpidaa", sum := "a61017d6f3a4d4e0c2097d11c7e436c229b49b232343e949094e16dbd02143bd", func := "loop.example/lettersthatarrive/laws.FnRoundCost", spec := "fnRoundCost", recurses := true, apart := false, narrowed := true }
def FnRoundCostUptoSaid : Prop := fnRoundCostUptoRow.holds Try.pinned (OpenSpec.upto fnRoundCostSpec)

end Rows
end Go.Proofs.Ytjklnknlifpidaa
