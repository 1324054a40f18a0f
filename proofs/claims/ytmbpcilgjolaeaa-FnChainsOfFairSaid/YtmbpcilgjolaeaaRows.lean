/-
  No cell of these rows narrows 'for every input' (looked for: loops, veiled, ifaces, maps, wideKeys, modest, calm, conditions, laid).
  DERIVED. THE GIVEN ROWS OF THIS SEAT. 12 by the template 'for every input the law returns true; each argument reads behind the call as it read before'; 0 by the template 'total and deterministic' (their statements: YtmbpcilgjolaeaaTotals.lean).
  GIVEN WITH THE SEED: the statements are not yours to turn. If you find one false, say at which input.
  Laid BY PROGRAM, IN A SANDBOX (cutbox-rows.mjs): the forced cells as the released guide's own fill.sh prints them over the translation aa04197346fe48b8… (all of the seat's roots in one cut). By AI agents, Wed Nov 11 2026. No macro, syntax, notation, axiom, sorry.
-/
import Derived.Test.YtmbpcilgjolaeaaChecked
import GoSem.Claim
import GoSem.ClaimJoined
import GoSem.ClaimMapViews
import Derived.JoinedTies
import Derived.KernelRfl
namespace Go.Proofs.Ytmbpcilgjolaeaa
/- THE CELL 'sum', in the pinned program and in every row, IS THE sha256 OF THE DUMP (.gsa) THAT YtmbpcilgjolaeaaProg.lean LOADS. Nothing in Lean hashes anything: it is a label: what it is worth is what the hold of that sum in a sandbox is worth. -/
noncomputable def Try.pinned : Pinned := { name := "ytmbpcilgjolaeaa", sum := "aa04197346fe48b8ddbb758e52f34955c8034933e4929e3fbfb83b2c4037832e", checked := Try.checked }
namespace Rows
def none {H : Type} : Left H := { results := [], args := [] }

/-- 'laws.FnExactValidRates': WHATEVER THE INPUT: true; the input reads as it did. -/
def fnExactValidRatesSpec : ChangeSpec := { name := "fnExactValidRates", fn := fun _ => fun
  | [d] => { results := [.lit (.bool true)], args := [d] }
  | _ => none }
def fnExactValidRatesRow : OpenClaim := { program := "ytmbpcilgjolaeaa", sum := "aa04197346fe48b8ddbb758e52f34955c8034933e4929e3fbfb83b2c4037832e", func := "loop.example/lettersthatarrive/laws.FnExactValidRates", spec := "fnExactValidRates", apart := false }
def FnExactValidRatesSaid : Prop := fnExactValidRatesRow.holds Try.pinned (OpenSpec.ofChange fnExactValidRatesSpec)

/-- ITS FALSE NEIGHBOUR: 'it returns false'. Refute it at one input. -/
def fnExactValidRatesWrong : ChangeSpec := { name := "fnExactValidRates", fn := fun _ => fun
  | [d] => { results := [.lit (.bool false)], args := [d] }
  | _ => none }
def FnExactValidRatesWrongFalsely : Prop := fnExactValidRatesRow.holds Try.pinned (OpenSpec.ofChange fnExactValidRatesWrong)

/-- 'laws.FnExactCheapestOf': WHATEVER THE INPUT: true; the input reads as it did. -/
def fnExactCheapestOfSpec : ChangeSpec := { name := "fnExactCheapestOf", fn := fun _ => fun
  | [d] => { results := [.lit (.bool true)], args := [d] }
  | _ => none }
def fnExactCheapestOfRow : OpenClaim := { program := "ytmbpcilgjolaeaa", sum := "aa04197346fe48b8ddbb758e52f34955c8034933e4929e3fbfb83b2c4037832e", func := "loop.example/lettersthatarrive/laws.FnExactCheapestOf", spec := "fnExactCheapestOf", apart := false }
def FnExactCheapestOfSaid : Prop := fnExactCheapestOfRow.holds Try.pinned (OpenSpec.ofChange fnExactCheapestOfSpec)

/-- ITS FALSE NEIGHBOUR: 'it returns false'. Refute it at one input. -/
def fnExactCheapestOfWrong : ChangeSpec := { name := "fnExactCheapestOf", fn := fun _ => fun
  | [d] => { results := [.lit (.bool false)], args := [d] }
  | _ => none }
def FnExactCheapestOfWrongFalsely : Prop := fnExactCheapestOfRow.holds Try.pinned (OpenSpec.ofChange fnExactCheapestOfWrong)

/-- 'laws.FnExactIsFair': WHATEVER THE INPUT: true; the input reads as it did. -/
def fnExactIsFairSpec : ChangeSpec := { name := "fnExactIsFair", fn := fun _ => fun
  | [d] => { results := [.lit (.bool true)], args := [d] }
  | _ => none }
def fnExactIsFairRow : OpenClaim := { program := "ytmbpcilgjolaeaa", sum := "aa04197346fe48b8ddbb758e52f34955c8034933e4929e3fbfb83b2c4037832e", func := "loop.example/lettersthatarrive/laws.FnExactIsFair", spec := "fnExactIsFair", apart := false }
def FnExactIsFairSaid : Prop := fnExactIsFairRow.holds Try.pinned (OpenSpec.ofChange fnExactIsFairSpec)

/-- ITS FALSE NEIGHBOUR: 'it returns false'. Refute it at one input. -/
def fnExactIsFairWrong : ChangeSpec := { name := "fnExactIsFair", fn := fun _ => fun
  | [d] => { results := [.lit (.bool false)], args := [d] }
  | _ => none }
def FnExactIsFairWrongFalsely : Prop := fnExactIsFairRow.holds Try.pinned (OpenSpec.ofChange fnExactIsFairWrong)

/-- 'laws.FnExactChainOf': WHATEVER THE INPUT: true; the input reads as it did. -/
def fnExactChainOfSpec : ChangeSpec := { name := "fnExactChainOf", fn := fun _ => fun
  | [d1, d2, d3] => { results := [.lit (.bool true)], args := [d1, d2, d3] }
  | _ => none }
def fnExactChainOfRow : OpenClaim := { program := "ytmbpcilgjolaeaa", sum := "aa04197346fe48b8ddbb758e52f34955c8034933e4929e3fbfb83b2c4037832e", func := "loop.example/lettersthatarrive/laws.FnExactChainOf", spec := "fnExactChainOf", recurses := true, apart := false }
def FnExactChainOfSaid : Prop := fnExactChainOfRow.holds Try.pinned (OpenSpec.ofChange fnExactChainOfSpec)

/-- ITS FALSE NEIGHBOUR: 'it returns false'. Refute it at one input. -/
def fnExactChainOfWrong : ChangeSpec := { name := "fnExactChainOf", fn := fun _ => fun
  | [d1, d2, d3] => { results := [.lit (.bool false)], args := [d1, d2, d3] }
  | _ => none }
def FnExactChainOfWrongFalsely : Prop := fnExactChainOfRow.holds Try.pinned (OpenSpec.ofChange fnExactChainOfWrong)

/-- 'laws.FnExactHubCost': WHATEVER THE INPUT: true; the input reads as it did. -/
def fnExactHubCostSpec : ChangeSpec := { name := "fnExactHubCost", fn := fun _ => fun
  | [d1, d2] => { results := [.lit (.bool true)], args := [d1, d2] }
  | _ => none }
def fnExactHubCostRow : OpenClaim := { program := "ytmbpcilgjolaeaa", sum := "aa04197346fe48b8ddbb758e52f34955c8034933e4929e3fbfb83b2c4037832e", func := "loop.example/lettersthatarrive/laws.FnExactHubCost", spec := "fnExactHubCost", apart := false }
def FnExactHubCostSaid : Prop := fnExactHubCostRow.holds Try.pinned (OpenSpec.ofChange fnExactHubCostSpec)

/-- ITS FALSE NEIGHBOUR: 'it returns false'. Refute it at one input. -/
def fnExactHubCostWrong : ChangeSpec := { name := "fnExactHubCost", fn := fun _ => fun
  | [d1, d2] => { results := [.lit (.bool false)], args := [d1, d2] }
  | _ => none }
def FnExactHubCostWrongFalsely : Prop := fnExactHubCostRow.holds Try.pinned (OpenSpec.ofChange fnExactHubCostWrong)

/-- 'laws.FnValidRates': WHATEVER THE INPUT: true; the input reads as it did. -/
def fnValidRatesSpec : ChangeSpec := { name := "fnValidRates", fn := fun _ => fun
  | [d] => { results := [.lit (.bool true)], args := [d] }
  | _ => none }
def fnValidRatesRow : OpenClaim := { program := "ytmbpcilgjolaeaa", sum := "aa04197346fe48b8ddbb758e52f34955c8034933e4929e3fbfb83b2c4037832e", func := "loop.example/lettersthatarrive/laws.FnValidRates", spec := "fnValidRates", apart := false }
def FnValidRatesSaid : Prop := fnValidRatesRow.holds Try.pinned (OpenSpec.ofChange fnValidRatesSpec)

/-- ITS FALSE NEIGHBOUR: 'it returns false'. Refute it at one input. -/
def fnValidRatesWrong : ChangeSpec := { name := "fnValidRates", fn := fun _ => fun
  | [d] => { results := [.lit (.bool false)], args := [d] }
  | _ => none }
def FnValidRatesWrongFalsely : Prop := fnValidRatesRow.holds Try.pinned (OpenSpec.ofChange fnValidRatesWrong)

/-- 'laws.FnCheapestOf': WHATEVER THE INPUT: true; the input reads as it did. -/
def fnCheapestOfSpec : ChangeSpec := { name := "fnCheapestOf", fn := fun _ => fun
  | [d] => { results := [.lit (.bool true)], args := [d] }
  | _ => none }
def fnCheapestOfRow : OpenClaim := { program := "ytmbpcilgjolaeaa", sum := "aa04197346fe48b8ddbb758e52f34955c8034933e4929e3fbfb83b2c4037832e", func := "loop.example/lettersthatarrive/laws.FnCheapestOf", spec := "fnCheapestOf", apart := false }
def FnCheapestOfSaid : Prop := fnCheapestOfRow.holds Try.pinned (OpenSpec.ofChange fnCheapestOfSpec)

/-- ITS FALSE NEIGHBOUR: 'it returns false'. Refute it at one input. -/
def fnCheapestOfWrong : ChangeSpec := { name := "fnCheapestOf", fn := fun _ => fun
  | [d] => { results := [.lit (.bool false)], args := [d] }
  | _ => none }
def FnCheapestOfWrongFalsely : Prop := fnCheapestOfRow.holds Try.pinned (OpenSpec.ofChange fnCheapestOfWrong)

/-- 'laws.FnIsFair': WHATEVER THE INPUT: true; the input reads as it did. -/
def fnIsFairSpec : ChangeSpec := { name := "fnIsFair", fn := fun _ => fun
  | [d] => { results := [.lit (.bool true)], args := [d] }
  | _ => none }
def fnIsFairRow : OpenClaim := { program := "ytmbpcilgjolaeaa", sum := "aa04197346fe48b8ddbb758e52f34955c8034933e4929e3fbfb83b2c4037832e", func := "loop.example/lettersthatarrive/laws.FnIsFair", spec := "fnIsFair", apart := false }
def FnIsFairSaid : Prop := fnIsFairRow.holds Try.pinned (OpenSpec.ofChange fnIsFairSpec)

/-- ITS FALSE NEIGHBOUR: 'it returns false'. Refute it at one input. -/
def fnIsFairWrong : ChangeSpec := { name := "fnIsFair", fn := fun _ => fun
  | [d] => { results := [.lit (.bool false)], args := [d] }
  | _ => none }
def FnIsFairWrongFalsely : Prop := fnIsFairRow.holds Try.pinned (OpenSpec.ofChange fnIsFairWrong)

/-- 'laws.FnChainOf': WHATEVER THE INPUT: true; the input reads as it did. -/
def fnChainOfSpec : ChangeSpec := { name := "fnChainOf", fn := fun _ => fun
  | [d] => { results := [.lit (.bool true)], args := [d] }
  | _ => none }
def fnChainOfRow : OpenClaim := { program := "ytmbpcilgjolaeaa", sum := "aa04197346fe48b8ddbb758e52f34955c8034933e4929e3fbfb83b2c4037832e", func := "loop.example/lettersthatarrive/laws.FnChainOf", spec := "fnChainOf", recurses := true, apart := false }
def FnChainOfSaid : Prop := fnChainOfRow.holds Try.pinned (OpenSpec.ofChange fnChainOfSpec)

/-- ITS FALSE NEIGHBOUR: 'it returns false'. Refute it at one input. -/
def fnChainOfWrong : ChangeSpec := { name := "fnChainOf", fn := fun _ => fun
  | [d] => { results := [.lit (.bool false)], args := [d] }
  | _ => none }
def FnChainOfWrongFalsely : Prop := fnChainOfRow.holds Try.pinned (OpenSpec.ofChange fnChainOfWrong)

/-- 'laws.FnHubCost': WHATEVER THE INPUT: true; the input reads as it did. -/
def fnHubCostSpec : ChangeSpec := { name := "fnHubCost", fn := fun _ => fun
  | [d] => { results := [.lit (.bool true)], args := [d] }
  | _ => none }
def fnHubCostRow : OpenClaim := { program := "ytmbpcilgjolaeaa", sum := "aa04197346fe48b8ddbb758e52f34955c8034933e4929e3fbfb83b2c4037832e", func := "loop.example/lettersthatarrive/laws.FnHubCost", spec := "fnHubCost", apart := false }
def FnHubCostSaid : Prop := fnHubCostRow.holds Try.pinned (OpenSpec.ofChange fnHubCostSpec)

/-- ITS FALSE NEIGHBOUR: 'it returns false'. Refute it at one input. -/
def fnHubCostWrong : ChangeSpec := { name := "fnHubCost", fn := fun _ => fun
  | [d] => { results := [.lit (.bool false)], args := [d] }
  | _ => none }
def FnHubCostWrongFalsely : Prop := fnHubCostRow.holds Try.pinned (OpenSpec.ofChange fnHubCostWrong)

/-- 'laws.FnHubsAreFair': WHATEVER THE INPUT: true; the input reads as it did. -/
def fnHubsAreFairSpec : ChangeSpec := { name := "fnHubsAreFair", fn := fun _ => fun
  | [d] => { results := [.lit (.bool true)], args := [d] }
  | _ => none }
def fnHubsAreFairRow : OpenClaim := { program := "ytmbpcilgjolaeaa", sum := "aa04197346fe48b8ddbb758e52f34955c8034933e4929e3fbfb83b2c4037832e", func := "loop.example/lettersthatarrive/laws.FnHubsAreFair", spec := "fnHubsAreFair", apart := false }
def FnHubsAreFairSaid : Prop := fnHubsAreFairRow.holds Try.pinned (OpenSpec.ofChange fnHubsAreFairSpec)

/-- ITS FALSE NEIGHBOUR: 'it returns false'. Refute it at one input. -/
def fnHubsAreFairWrong : ChangeSpec := { name := "fnHubsAreFair", fn := fun _ => fun
  | [d] => { results := [.lit (.bool false)], args := [d] }
  | _ => none }
def FnHubsAreFairWrongFalsely : Prop := fnHubsAreFairRow.holds Try.pinned (OpenSpec.ofChange fnHubsAreFairWrong)

/-- 'laws.FnChainsOfFair': WHATEVER THE INPUT: true; the input reads as it did. -/
def fnChainsOfFairSpec : ChangeSpec := { name := "fnChainsOfFair", fn := fun _ => fun
  | [d] => { results := [.lit (.bool true)], args := [d] }
  | _ => none }
def fnChainsOfFairRow : OpenClaim := { program := "ytmbpcilgjolaeaa", sum := "aa04197346fe48b8ddbb758e52f34955c8034933e4929e3fbfb83b2c4037832e", func := "loop.example/lettersthatarrive/laws.FnChainsOfFair", spec := "fnChainsOfFair", recurses := true, apart := false }
def FnChainsOfFairSaid : Prop := fnChainsOfFairRow.holds Try.pinned (OpenSpec.ofChange fnChainsOfFairSpec)

/-- ITS FALSE NEIGHBOUR: 'it returns false'. Refute it at one input. -/
def fnChainsOfFairWrong : ChangeSpec := { name := "fnChainsOfFair", fn := fun _ => fun
  | [d] => { results := [.lit (.bool false)], args := [d] }
  | _ => none }
def FnChainsOfFairWrongFalsely : Prop := fnChainsOfFairRow.holds Try.pinned (OpenSpec.ofChange fnChainsOfFairWrong)

/- THE SECOND FORM. 'bulk': how many values and letters a reading holds, each counted each time it is reached (what is shared counts as often as it is met; a slice's spare places count too). A statement '..UptoSaid' is the law's where the arguments, and the package variables that the reading takes, are together of bulk at most 1048576: NARROWER than '..Said'. Prove '..Said' where nothing that the law and all that it calls make is longer than what came in: it says more and counts as full. Else prove '..UptoSaid'. A law counts once. -/
mutual
def uptoBulk {H : Type} : DataW H → Nat
  | .lit (.string bytes) => bytes.length + 1
  | .lit _ => 1
  | .nil => 1
  | .ptr d => uptoBulk d + 1
  | .slice elems spare => uptoBulkAll elems + uptoBulkAll spare + 1
  | .agg parts => uptoBulkAll parts + 1
  | .iface _ d => uptoBulk d + 1
  | .map entries => uptoBulkEntries entries + 1
  | .held _ => 1
def uptoBulkAll {H : Type} : List (DataW H) → Nat
  | [] => 0
  | d :: r => uptoBulk d + uptoBulkAll r
def uptoBulkEntries {H : Type} : List (Lit × DataW H) → Nat
  | [] => 0
  | x :: r => uptoBulkEntry x + uptoBulkEntries r
def uptoBulkEntry {H : Type} : Lit × DataW H → Nat
  | (.string bytes, d) => bytes.length + uptoBulk d + 1
  | (_, d) => uptoBulk d + 1
 end
def uptoSmall : (H : Type) → List (DataW H) → Bool := fun _ ds => decide (uptoBulkAll ds ≤ 1048576)
def OpenSpec.upto (s : _root_.Go.ChangeSpec) : _root_.Go.OpenSpec := { _root_.Go.OpenSpec.ofChange s with cond := some uptoSmall }

/-- 'laws.FnExactValidRates', WHERE WHAT IT READS IS OF BULK AT MOST 1048576: true; the input reads as it did. -/
def fnExactValidRatesUptoRow : OpenClaim := { program := "ytmbpcilgjolaeaa", sum := "aa04197346fe48b8ddbb758e52f34955c8034933e4929e3fbfb83b2c4037832e", func := "loop.example/lettersthatarrive/laws.FnExactValidRates", spec := "fnExactValidRates", apart := false, narrowed := true }
def FnExactValidRatesUptoSaid : Prop := fnExactValidRatesUptoRow.holds Try.pinned (OpenSpec.upto fnExactValidRatesSpec)

/-- 'laws.FnExactCheapestOf', WHERE WHAT IT READS IS OF BULK AT MOST 1048576: true; the input reads as it did. -/
def fnExactCheapestOfUptoRow : OpenClaim := { program := "ytmbpcilgjolaeaa", sum := "aa04197346fe48b8ddbb758e52f34955c8034933e4929e3fbfb83b2c4037832e", func := "loop.example/lettersthatarrive/laws.FnExactCheapestOf", spec := "fnExactCheapestOf", apart := false, narrowed := true }
def FnExactCheapestOfUptoSaid : Prop := fnExactCheapestOfUptoRow.holds Try.pinned (OpenSpec.upto fnExactCheapestOfSpec)

/-- 'laws.FnExactIsFair', WHERE WHAT IT READS IS OF BULK AT MOST 1048576: true; the input reads as it did. -/
def fnExactIsFairUptoRow : OpenClaim := { program := "ytmbpcilgjolaeaa", sum := "aa04197346fe48b8ddbb758e52f34955c8034933e4929e3fbfb83b2c4037832e", func := "loop.example/lettersthatarrive/laws.FnExactIsFair", spec := "fnExactIsFair", apart := false, narrowed := true }
def FnExactIsFairUptoSaid : Prop := fnExactIsFairUptoRow.holds Try.pinned (OpenSpec.upto fnExactIsFairSpec)

/-- 'laws.FnExactChainOf', WHERE WHAT IT READS IS OF BULK AT MOST 1048576: true; the input reads as it did. -/
def fnExactChainOfUptoRow : OpenClaim := { program := "ytmbpcilgjolaeaa", sum := "aa04197346fe48b8ddbb758e52f34955c8034933e4929e3fbfb83b2c4037832e", func := "loop.example/lettersthatarrive/laws.FnExactChainOf", spec := "fnExactChainOf", recurses := true, apart := false, narrowed := true }
def FnExactChainOfUptoSaid : Prop := fnExactChainOfUptoRow.holds Try.pinned (OpenSpec.upto fnExactChainOfSpec)

/-- 'laws.FnExactHubCost', WHERE WHAT IT READS IS OF BULK AT MOST 1048576: true; the input reads as it did. -/
def fnExactHubCostUptoRow : OpenClaim := { program := "ytmbpcilgjolaeaa", sum := "aa04197346fe48b8ddbb758e52f34955c8034933e4929e3fbfb83b2c4037832e", func := "loop.example/lettersthatarrive/laws.FnExactHubCost", spec := "fnExactHubCost", apart := false, narrowed := true }
def FnExactHubCostUptoSaid : Prop := fnExactHubCostUptoRow.holds Try.pinned (OpenSpec.upto fnExactHubCostSpec)

/-- 'laws.FnValidRates', WHERE WHAT IT READS IS OF BULK AT MOST 1048576: true; the input reads as it did. -/
def fnValidRatesUptoRow : OpenClaim := { program := "ytmbpcilgjolaeaa", sum := "aa04197346fe48b8ddbb758e52f34955c8034933e4929e3fbfb83b2c4037832e", func := "loop.example/lettersthatarrive/laws.FnValidRates", spec := "fnValidRates", apart := false, narrowed := true }
def FnValidRatesUptoSaid : Prop := fnValidRatesUptoRow.holds Try.pinned (OpenSpec.upto fnValidRatesSpec)

/-- 'laws.FnCheapestOf', WHERE WHAT IT READS IS OF BULK AT MOST 1048576: true; the input reads as it did. -/
def fnCheapestOfUptoRow : OpenClaim := { program := "ytmbpcilgjolaeaa", sum := "aa04197346fe48b8ddbb758e52f34955c8034933e4929e3fbfb83b2c4037832e", func := "loop.example/lettersthatarrive/laws.FnCheapestOf", spec := "fnCheapestOf", apart := false, narrowed := true }
def FnCheapestOfUptoSaid : Prop := fnCheapestOfUptoRow.holds Try.pinned (OpenSpec.upto fnCheapestOfSpec)

/-- 'laws.FnIsFair', WHERE WHAT IT READS IS OF BULK AT MOST 1048576: true; the input reads as it did. -/
def fnIsFairUptoRow : OpenClaim := { program := "ytmbpcilgjolaeaa", sum := "aa04197346fe48b8ddbb758e52f34955c8034933e4929e3fbfb83b2c4037832e", func := "loop.example/lettersthatarrive/laws.FnIsFair", spec := "fnIsFair", apart := false, narrowed := true }
def FnIsFairUptoSaid : Prop := fnIsFairUptoRow.holds Try.pinned (OpenSpec.upto fnIsFairSpec)

/-- 'laws.FnChainOf', WHERE WHAT IT READS IS OF BULK AT MOST 1048576: true; the input reads as it did. -/
def fnChainOfUptoRow : OpenClaim := { program := "ytmbpcilgjolaeaa", sum := "aa04197346fe48b8ddbb758e52f34955c8034933e4929e3fbfb83b2c4037832e", func := "loop.example/lettersthatarrive/laws.FnChainOf", spec := "fnChainOf", recurses := true, apart := false, narrowed := true }
def FnChainOfUptoSaid : Prop := fnChainOfUptoRow.holds Try.pinned (OpenSpec.upto fnChainOfSpec)

/-- 'laws.FnHubCost', WHERE WHAT IT READS IS OF BULK AT MOST 1048576: true; the input reads as it did. -/
def fnHubCostUptoRow : OpenClaim := { program := "ytmbpcilgjolaeaa", sum := "aa04197346fe48b8ddbb758e52f34955c8034933e4929e3fbfb83b2c4037832e", func := "loop.example/lettersthatarrive/laws.FnHubCost", spec := "fnHubCost", apart := false, narrowed := true }
def FnHubCostUptoSaid : Prop := fnHubCostUptoRow.holds Try.pinned (OpenSpec.upto fnHubCostSpec)

/-- 'laws.FnHubsAreFair', WHERE WHAT IT READS IS OF BULK AT MOST 1048576: true; the input reads as it did. -/
def fnHubsAreFairUptoRow : OpenClaim := { program := "ytmbpcilgjolaeaa", sum := "aa04197346fe48b8ddbb758e52f34955c8034933e4929e3fbfb83b2c4037832e", func := "loop.example/lettersthatarrive/laws.FnHubsAreFair", spec := "fnHubsAreFair", apart := false, narrowed := true }
def FnHubsAreFairUptoSaid : Prop := fnHubsAreFairUptoRow.holds Try.pinned (OpenSpec.upto fnHubsAreFairSpec)

/-- 'laws.FnChainsOfFair', WHERE WHAT IT READS IS OF BULK AT MOST 1048576: true; the input reads as it did. -/
def fnChainsOfFairUptoRow : OpenClaim := { program := "ytmbpcilgjolaeaa", sum := "aa04197346fe48b8ddbb758e52f34955c8034933e4929e3fbfb83b2c4037832e", func := "loop.example/lettersthatarrive/laws.FnChainsOfFair", spec := "fnChainsOfFair", recurses := true, apart := false, narrowed := true }
def FnChainsOfFairUptoSaid : Prop := fnChainsOfFairUptoRow.holds Try.pinned (OpenSpec.upto fnChainsOfFairSpec)

end Rows
end Go.Proofs.Ytmbpcilgjolaeaa
