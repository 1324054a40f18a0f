/-
  No cell of these rows narrows 'for every input' (looked for: loops, veiled, ifaces, maps, wideKeys, modest, calm, conditions, laid).
  DERIVED. THE GIVEN ROWS OF THIS SEAT. 11 by the template 'for every input the law returns true; each argument reads behind the call as it read before'; 0 by the template 'total and deterministic' (their statements: YtaaekpbiaghjfaaTotals.lean).
  GIVEN WITH THE SEED: the statements are not yours to turn. If you find one false, say at which input.
  Laid BY PROGRAM, IN A SANDBOX (cutbox-rows.mjs): the forced cells as the released guide's own fill.sh prints them over the translation 974510e06936f62d… (all of the seat's roots in one cut). By AI agents, Wed Nov 11 2026. No macro, syntax, notation, axiom, sorry.
-/
import Derived.Test.YtaaekpbiaghjfaaChecked
import GoSem.Claim
import GoSem.ClaimJoined
import GoSem.ClaimMapViews
import Derived.JoinedTies
import Derived.KernelRfl
namespace Go.Proofs.Ytaaekpbiaghjfaa
/- THE CELL 'sum', in the pinned program and in every row, IS THE sha256 OF THE DUMP (.gsa) THAT YtaaekpbiaghjfaaProg.lean LOADS. Nothing in Lean hashes anything: it is a label: what it is worth is what the hold of that sum in a sandbox is worth. -/
noncomputable def Try.pinned : Pinned := { name := "ytaaekpbiaghjfaa", sum := "974510e06936f62d71f473b053adf42b9179aefd636ed858a425968dd9f86237", checked := Try.checked }
namespace Rows
def none {H : Type} : Left H := { results := [], args := [] }

/-- 'laws.FnValidHouses': WHATEVER THE INPUT: true; the input reads as it did. -/
def fnValidHousesSpec : ChangeSpec := { name := "fnValidHouses", fn := fun _ => fun
  | [d] => { results := [.lit (.bool true)], args := [d] }
  | _ => none }
def fnValidHousesRow : OpenClaim := { program := "ytaaekpbiaghjfaa", sum := "974510e06936f62d71f473b053adf42b9179aefd636ed858a425968dd9f86237", func := "loop.example/lettersthatarrive/laws.FnValidHouses", spec := "fnValidHouses", apart := false }
def FnValidHousesSaid : Prop := fnValidHousesRow.holds Try.pinned (OpenSpec.ofChange fnValidHousesSpec)

/-- ITS FALSE NEIGHBOUR: 'it returns false'. Refute it at one input. -/
def fnValidHousesWrong : ChangeSpec := { name := "fnValidHouses", fn := fun _ => fun
  | [d] => { results := [.lit (.bool false)], args := [d] }
  | _ => none }
def FnValidHousesWrongFalsely : Prop := fnValidHousesRow.holds Try.pinned (OpenSpec.ofChange fnValidHousesWrong)

/-- 'laws.FnWalkOf': WHATEVER THE INPUT: true; the input reads as it did. -/
def fnWalkOfSpec : ChangeSpec := { name := "fnWalkOf", fn := fun _ => fun
  | [d] => { results := [.lit (.bool true)], args := [d] }
  | _ => none }
def fnWalkOfRow : OpenClaim := { program := "ytaaekpbiaghjfaa", sum := "974510e06936f62d71f473b053adf42b9179aefd636ed858a425968dd9f86237", func := "loop.example/lettersthatarrive/laws.FnWalkOf", spec := "fnWalkOf", apart := false }
def FnWalkOfSaid : Prop := fnWalkOfRow.holds Try.pinned (OpenSpec.ofChange fnWalkOfSpec)

/-- ITS FALSE NEIGHBOUR: 'it returns false'. Refute it at one input. -/
def fnWalkOfWrong : ChangeSpec := { name := "fnWalkOf", fn := fun _ => fun
  | [d] => { results := [.lit (.bool false)], args := [d] }
  | _ => none }
def FnWalkOfWrongFalsely : Prop := fnWalkOfRow.holds Try.pinned (OpenSpec.ofChange fnWalkOfWrong)

/-- 'laws.FnBestWalk': WHATEVER THE INPUT: true; the input reads as it did. -/
def fnBestWalkSpec : ChangeSpec := { name := "fnBestWalk", fn := fun _ => fun
  | [d] => { results := [.lit (.bool true)], args := [d] }
  | _ => none }
def fnBestWalkRow : OpenClaim := { program := "ytaaekpbiaghjfaa", sum := "974510e06936f62d71f473b053adf42b9179aefd636ed858a425968dd9f86237", func := "loop.example/lettersthatarrive/laws.FnBestWalk", spec := "fnBestWalk", unfollowed := true, recurses := true, apart := false }
def FnBestWalkSaid : Prop := fnBestWalkRow.holds Try.pinned (OpenSpec.ofChange fnBestWalkSpec)

/-- ITS FALSE NEIGHBOUR: 'it returns false'. Refute it at one input. -/
def fnBestWalkWrong : ChangeSpec := { name := "fnBestWalk", fn := fun _ => fun
  | [d] => { results := [.lit (.bool false)], args := [d] }
  | _ => none }
def FnBestWalkWrongFalsely : Prop := fnBestWalkRow.holds Try.pinned (OpenSpec.ofChange fnBestWalkWrong)

/-- 'laws.FnOrderBy': WHATEVER THE INPUT: true; the input reads as it did. -/
def fnOrderBySpec : ChangeSpec := { name := "fnOrderBy", fn := fun _ => fun
  | [d] => { results := [.lit (.bool true)], args := [d] }
  | _ => none }
def fnOrderByRow : OpenClaim := { program := "ytaaekpbiaghjfaa", sum := "974510e06936f62d71f473b053adf42b9179aefd636ed858a425968dd9f86237", func := "loop.example/lettersthatarrive/laws.FnOrderBy", spec := "fnOrderBy", unfollowed := true, recurses := true, apart := false }
def FnOrderBySaid : Prop := fnOrderByRow.holds Try.pinned (OpenSpec.ofChange fnOrderBySpec)

/-- ITS FALSE NEIGHBOUR: 'it returns false'. Refute it at one input. -/
def fnOrderByWrong : ChangeSpec := { name := "fnOrderBy", fn := fun _ => fun
  | [d] => { results := [.lit (.bool false)], args := [d] }
  | _ => none }
def FnOrderByWrongFalsely : Prop := fnOrderByRow.holds Try.pinned (OpenSpec.ofChange fnOrderByWrong)

/-- 'laws.FnLeastWalk': WHATEVER THE INPUT: true; the input reads as it did. -/
def fnLeastWalkSpec : ChangeSpec := { name := "fnLeastWalk", fn := fun _ => fun
  | [d] => { results := [.lit (.bool true)], args := [d] }
  | _ => none }
def fnLeastWalkRow : OpenClaim := { program := "ytaaekpbiaghjfaa", sum := "974510e06936f62d71f473b053adf42b9179aefd636ed858a425968dd9f86237", func := "loop.example/lettersthatarrive/laws.FnLeastWalk", spec := "fnLeastWalk", apart := false }
def FnLeastWalkSaid : Prop := fnLeastWalkRow.holds Try.pinned (OpenSpec.ofChange fnLeastWalkSpec)

/-- ITS FALSE NEIGHBOUR: 'it returns false'. Refute it at one input. -/
def fnLeastWalkWrong : ChangeSpec := { name := "fnLeastWalk", fn := fun _ => fun
  | [d] => { results := [.lit (.bool false)], args := [d] }
  | _ => none }
def FnLeastWalkWrongFalsely : Prop := fnLeastWalkRow.holds Try.pinned (OpenSpec.ofChange fnLeastWalkWrong)

/-- 'laws.FnWalksGrow': WHATEVER THE INPUT: true; the input reads as it did. -/
def fnWalksGrowSpec : ChangeSpec := { name := "fnWalksGrow", fn := fun _ => fun
  | [d] => { results := [.lit (.bool true)], args := [d] }
  | _ => none }
def fnWalksGrowRow : OpenClaim := { program := "ytaaekpbiaghjfaa", sum := "974510e06936f62d71f473b053adf42b9179aefd636ed858a425968dd9f86237", func := "loop.example/lettersthatarrive/laws.FnWalksGrow", spec := "fnWalksGrow", unfollowed := true, recurses := true, apart := false }
def FnWalksGrowSaid : Prop := fnWalksGrowRow.holds Try.pinned (OpenSpec.ofChange fnWalksGrowSpec)

/-- ITS FALSE NEIGHBOUR: 'it returns false'. Refute it at one input. -/
def fnWalksGrowWrong : ChangeSpec := { name := "fnWalksGrow", fn := fun _ => fun
  | [d] => { results := [.lit (.bool false)], args := [d] }
  | _ => none }
def FnWalksGrowWrongFalsely : Prop := fnWalksGrowRow.holds Try.pinned (OpenSpec.ofChange fnWalksGrowWrong)

/-- 'laws.FnExactValidHouses': WHATEVER THE INPUT: true; the input reads as it did. -/
def fnExactValidHousesSpec : ChangeSpec := { name := "fnExactValidHouses", fn := fun _ => fun
  | [d] => { results := [.lit (.bool true)], args := [d] }
  | _ => none }
def fnExactValidHousesRow : OpenClaim := { program := "ytaaekpbiaghjfaa", sum := "974510e06936f62d71f473b053adf42b9179aefd636ed858a425968dd9f86237", func := "loop.example/lettersthatarrive/laws.FnExactValidHouses", spec := "fnExactValidHouses", apart := false }
def FnExactValidHousesSaid : Prop := fnExactValidHousesRow.holds Try.pinned (OpenSpec.ofChange fnExactValidHousesSpec)

/-- ITS FALSE NEIGHBOUR: 'it returns false'. Refute it at one input. -/
def fnExactValidHousesWrong : ChangeSpec := { name := "fnExactValidHouses", fn := fun _ => fun
  | [d] => { results := [.lit (.bool false)], args := [d] }
  | _ => none }
def FnExactValidHousesWrongFalsely : Prop := fnExactValidHousesRow.holds Try.pinned (OpenSpec.ofChange fnExactValidHousesWrong)

/-- 'laws.FnExactWalkOf': WHATEVER THE INPUT: true; the input reads as it did. -/
def fnExactWalkOfSpec : ChangeSpec := { name := "fnExactWalkOf", fn := fun _ => fun
  | [d1, d2, d3] => { results := [.lit (.bool true)], args := [d1, d2, d3] }
  | _ => none }
def fnExactWalkOfRow : OpenClaim := { program := "ytaaekpbiaghjfaa", sum := "974510e06936f62d71f473b053adf42b9179aefd636ed858a425968dd9f86237", func := "loop.example/lettersthatarrive/laws.FnExactWalkOf", spec := "fnExactWalkOf", apart := false }
def FnExactWalkOfSaid : Prop := fnExactWalkOfRow.holds Try.pinned (OpenSpec.ofChange fnExactWalkOfSpec)

/-- ITS FALSE NEIGHBOUR: 'it returns false'. Refute it at one input. -/
def fnExactWalkOfWrong : ChangeSpec := { name := "fnExactWalkOf", fn := fun _ => fun
  | [d1, d2, d3] => { results := [.lit (.bool false)], args := [d1, d2, d3] }
  | _ => none }
def FnExactWalkOfWrongFalsely : Prop := fnExactWalkOfRow.holds Try.pinned (OpenSpec.ofChange fnExactWalkOfWrong)

/-- 'laws.FnExactBestWalk': WHATEVER THE INPUT: true; the input reads as it did. -/
def fnExactBestWalkSpec : ChangeSpec := { name := "fnExactBestWalk", fn := fun _ => fun
  | [d1, d2] => { results := [.lit (.bool true)], args := [d1, d2] }
  | _ => none }
def fnExactBestWalkRow : OpenClaim := { program := "ytaaekpbiaghjfaa", sum := "974510e06936f62d71f473b053adf42b9179aefd636ed858a425968dd9f86237", func := "loop.example/lettersthatarrive/laws.FnExactBestWalk", spec := "fnExactBestWalk", unfollowed := true, recurses := true, apart := false }
def FnExactBestWalkSaid : Prop := fnExactBestWalkRow.holds Try.pinned (OpenSpec.ofChange fnExactBestWalkSpec)

/-- ITS FALSE NEIGHBOUR: 'it returns false'. Refute it at one input. -/
def fnExactBestWalkWrong : ChangeSpec := { name := "fnExactBestWalk", fn := fun _ => fun
  | [d1, d2] => { results := [.lit (.bool false)], args := [d1, d2] }
  | _ => none }
def FnExactBestWalkWrongFalsely : Prop := fnExactBestWalkRow.holds Try.pinned (OpenSpec.ofChange fnExactBestWalkWrong)

/-- 'laws.FnExactOrderBy': WHATEVER THE INPUT: true; the input reads as it did. -/
def fnExactOrderBySpec : ChangeSpec := { name := "fnExactOrderBy", fn := fun _ => fun
  | [d1, d2] => { results := [.lit (.bool true)], args := [d1, d2] }
  | _ => none }
def fnExactOrderByRow : OpenClaim := { program := "ytaaekpbiaghjfaa", sum := "974510e06936f62d71f473b053adf42b9179aefd636ed858a425968dd9f86237", func := "loop.example/lettersthatarrive/laws.FnExactOrderBy", spec := "fnExactOrderBy", unfollowed := true, recurses := true, apart := false }
def FnExactOrderBySaid : Prop := fnExactOrderByRow.holds Try.pinned (OpenSpec.ofChange fnExactOrderBySpec)

/-- ITS FALSE NEIGHBOUR: 'it returns false'. Refute it at one input. -/
def fnExactOrderByWrong : ChangeSpec := { name := "fnExactOrderBy", fn := fun _ => fun
  | [d1, d2] => { results := [.lit (.bool false)], args := [d1, d2] }
  | _ => none }
def FnExactOrderByWrongFalsely : Prop := fnExactOrderByRow.holds Try.pinned (OpenSpec.ofChange fnExactOrderByWrong)

/-- 'laws.FnExactLeastWalk': WHATEVER THE INPUT: true; the input reads as it did. -/
def fnExactLeastWalkSpec : ChangeSpec := { name := "fnExactLeastWalk", fn := fun _ => fun
  | [d1, d2] => { results := [.lit (.bool true)], args := [d1, d2] }
  | _ => none }
def fnExactLeastWalkRow : OpenClaim := { program := "ytaaekpbiaghjfaa", sum := "974510e06936f62d71f473b053adf42b9179aefd636ed858a425968dd9f86237", func := "loop.example/lettersthatarrive/laws.FnExactLeastWalk", spec := "fnExactLeastWalk", apart := false }
def FnExactLeastWalkSaid : Prop := fnExactLeastWalkRow.holds Try.pinned (OpenSpec.ofChange fnExactLeastWalkSpec)

/-- ITS FALSE NEIGHBOUR: 'it returns false'. Refute it at one input. -/
def fnExactLeastWalkWrong : ChangeSpec := { name := "fnExactLeastWalk", fn := fun _ => fun
  | [d1, d2] => { results := [.lit (.bool false)], args := [d1, d2] }
  | _ => none }
def FnExactLeastWalkWrongFalsely : Prop := fnExactLeastWalkRow.holds Try.pinned (OpenSpec.ofChange fnExactLeastWalkWrong)

/- THE SECOND FORM. 'bulk': how many values and letters a reading holds, each counted each time it is reached (what is shared counts as often as it is met; a slice's spare places count too). A statement '..UptoSaid' is the law's where the arguments, and the package variables that the reading takes, are together of bulk at most 1048576: NARROWER than '..Said'. Prove '..Said' where nothing that the law and all that it calls make is longer than what came in: it says more and counts as full. Else prove '..UptoSaid'. A law counts once. -/
mutual
def uptoBulk {H : Type} : DataW H → Nat
  | .lit (.string bytes) => bytes.length + 1
  | .lit _ => 1
  | .nil => 1
  | .ptr d => uptoBulk d + 1
  | .slice elems spare => uptoBulkAll elems + uptoBulkAll spare + 1
  | .agg parts => uptoBulkAll parts + 1
  | .iface _ d => uptoBulk d + 1
  | .map entries => uptoBulkEntries entries + 1
  | .held _ => 1
def uptoBulkAll {H : Type} : List (DataW H) → Nat
  | [] => 0
  | d :: r => uptoBulk d + uptoBulkAll r
def uptoBulkEntries {H : Type} : List (Lit × DataW H) → Nat
  | [] => 0
  | x :: r => uptoBulkEntry x + uptoBulkEntries r
def uptoBulkEntry {H : Type} : Lit × DataW H → Nat
  | (.string bytes, d) => bytes.length + uptoBulk d + 1
  | (_, d) => uptoBulk d + 1
 end
def uptoSmall : (H : Type) → List (DataW H) → Bool := fun _ ds => decide (uptoBulkAll ds ≤ 1048576)
def OpenSpec.upto (s : _root_.Go.ChangeSpec) : _root_.Go.OpenSpec := { _root_.Go.OpenSpec.ofChange s with cond := some uptoSmall }

/-- 'laws.FnValidHouses', WHERE WHAT IT READS IS OF BULK AT MOST 1048576: true; the input reads as it did. -/
def fnValidHousesUptoRow : OpenClaim := { program := "ytaaekpbiaghjfaa", sum := "974510e06936f62d71f473b053adf42b9179aefd636ed858a425968dd9f86237", func := "loop.example/lettersthatarrive/laws.FnValidHouses", spec := "fnValidHouses", apart := false, narrowed := true }
def FnValidHousesUptoSaid : Prop := fnValidHousesUptoRow.holds Try.pinned (OpenSpec.upto fnValidHousesSpec)

/-- 'laws.FnWalkOf', WHERE WHAT IT READS IS OF BULK AT MOST 1048576: true; the input reads as it did. -/
def fnWalkOfUptoRow : OpenClaim := { program := "ytaaekpbiaghjfaa", sum := "974510e06936f62d71f473b053adf42b9179aefd636ed858a425968dd9f86237", func := "loop.example/lettersthatarrive/laws.FnWalkOf", spec := "fnWalkOf", apart := false, narrowed := true }
def FnWalkOfUptoSaid : Prop := fnWalkOfUptoRow.holds Try.pinned (OpenSpec.upto fnWalkOfSpec)

/-- 'laws.FnBestWalk', WHERE WHAT IT READS IS OF BULK AT MOST 1048576: true; the input reads as it did. -/
def fnBestWalkUptoRow : OpenClaim := { program := "ytaaekpbiaghjfaa", sum := "974510e06936f62d71f473b053adf42b9179aefd636ed858a425968dd9f86237", func := "loop.example/lettersthatarrive/laws.FnBestWalk", spec := "fnBestWalk", unfollowed := true, recurses := true, apart := false, narrowed := true }
def FnBestWalkUptoSaid : Prop := fnBestWalkUptoRow.holds Try.pinned (OpenSpec.upto fnBestWalkSpec)

/-- 'laws.FnOrderBy', WHERE WHAT IT READS IS OF BULK AT MOST 1048576: true; the input reads as it did. -/
def fnOrderByUptoRow : OpenClaim := { program := "ytaaekpbiaghjfaa", sum := "974510e06936f62d71f473b053adf42b9179aefd636ed858a425968dd9f86237", func := "loop.example/lettersthatarrive/laws.FnOrderBy", spec := "fnOrderBy", unfollowed := true, recurses := true, apart := false, narrowed := true }
def FnOrderByUptoSaid : Prop := fnOrderByUptoRow.holds Try.pinned (OpenSpec.upto fnOrderBySpec)

/-- 'laws.FnLeastWalk', WHERE WHAT IT READS IS OF BULK AT MOST 1048576: true; the input reads as it did. -/
def fnLeastWalkUptoRow : OpenClaim := { program := "ytaaekpbiaghjfaa", sum := "974510e06936f62d71f473b053adf42b9179aefd636ed858a425968dd9f86237", func := "loop.example/lettersthatarrive/laws.FnLeastWalk", spec := "fnLeastWalk", apart := false, narrowed := true }
def FnLeastWalkUptoSaid : Prop := fnLeastWalkUptoRow.holds Try.pinned (OpenSpec.upto fnLeastWalkSpec)

/-- 'laws.FnWalksGrow', WHERE WHAT IT READS IS OF BULK AT MOST 1048576: true; the input reads as it did. -/
def fnWalksGrowUptoRow : OpenClaim := { program := "ytaaekpbiaghjfaa", sum := "974510e06936f62d71f473b053adf42b9179aefd636ed858a425968dd9f86237", func := "loop.example/lettersthatarrive/laws.FnWalksGrow", spec := "fnWalksGrow", unfollowed := true, recurses := true, apart := false, narrowed := true }
def FnWalksGrowUptoSaid : Prop := fnWalksGrowUptoRow.holds Try.pinned (OpenSpec.upto fnWalksGrowSpec)

/-- 'laws.FnExactValidHouses', WHERE WHAT IT READS IS OF BULK AT MOST 1048576: true; the input reads as it did. -/
def fnExactValidHousesUptoRow : OpenClaim := { program := "ytaaekpbiaghjfaa", sum := "974510e06936f62d71f473b053adf42b9179aefd636ed858a425968dd9f86237", func := "loop.example/lettersthatarrive/laws.FnExactValidHouses", spec := "fnExactValidHouses", apart := false, narrowed := true }
def FnExactValidHousesUptoSaid : Prop := fnExactValidHousesUptoRow.holds Try.pinned (OpenSpec.upto fnExactValidHousesSpec)

/-- 'laws.FnExactWalkOf', WHERE WHAT IT READS IS OF BULK AT MOST 1048576: true; the input reads as it did. -/
def fnExactWalkOfUptoRow : OpenClaim := { program := "ytaaekpbiaghjfaa", sum := "974510e06936f62d71f473b053adf42b9179aefd636ed858a425968dd9f86237", func := "loop.example/lettersthatarrive/laws.FnExactWalkOf", spec := "fnExactWalkOf", apart := false, narrowed := true }
def FnExactWalkOfUptoSaid : Prop := fnExactWalkOfUptoRow.holds Try.pinned (OpenSpec.upto fnExactWalkOfSpec)

/-- 'laws.FnExactBestWalk', WHERE WHAT IT READS IS OF BULK AT MOST 1048576: true; the input reads as it did. -/
def fnExactBestWalkUptoRow : OpenClaim := { program := "ytaaekpbiaghjfaa", sum := "974510e06936f62d71f473b053adf42b9179aefd636ed858a425968dd9f86237", func := "loop.example/lettersthatarrive/laws.FnExactBestWalk", spec := "fnExactBestWalk", unfollowed := true, recurses := true, apart := false, narrowed := true }
def FnExactBestWalkUptoSaid : Prop := fnExactBestWalkUptoRow.holds Try.pinned (OpenSpec.upto fnExactBestWalkSpec)

/-- 'laws.FnExactOrderBy', WHERE WHAT IT READS IS OF BULK AT MOST 1048576: true; the input reads as it did. -/
def fnExactOrderByUptoRow : OpenClaim := { program := "ytaaekpbiaghjfaa", sum := "974510e06936f62d71f473b053adf42b9179aefd636ed858a425968dd9f86237", func := "loop.example/lettersthatarrive/laws.FnExactOrderBy", spec := "fnExactOrderBy", unfollowed := true, recurses := true, apart := false, narrowed := true }
def FnExactOrderByUptoSaid : Prop := fnExactOrderByUptoRow.holds Try.pinned (OpenSpec.upto fnExactOrderBySpec)

/-- 'laws.FnExactLeastWalk', WHERE WHAT IT READS IS OF BULK AT MOST 1048576: true; the input reads as it did. -/
def fnExactLeastWalkUptoRow : OpenClaim := { program := "ytaaekpbiaghjfaa", sum := "974510e06936f62d71f473b053adf42b9179aefd636ed858a425968dd9f86237", func := "loop.example/lettersthatarrive/laws.FnExactLeastWalk", spec := "fnExactLeastWalk", apart := false, narrowed := true }
def FnExactLeastWalkUptoSaid : Prop := fnExactLeastWalkUptoRow.holds Try.pinned (OpenSpec.upto fnExactLeastWalkSpec)

end Rows
end Go.Proofs.Ytaaekpbiaghjfaa
