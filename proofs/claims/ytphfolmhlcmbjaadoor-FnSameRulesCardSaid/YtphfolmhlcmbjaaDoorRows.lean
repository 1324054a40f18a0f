/-
  NARROWER THAN 'FOR EVERY INPUT', by the rows' own cells (each row's printed sentence says how): FnValidRules: laid · FnBoxOf: laid · FnSameRules: laid · FnShadowedOf: laid · FnTrimRules: laid · FnExactValidRules: laid · FnExactBoxOf: laid · FnExactSameRules: laid · FnExactShadowedOf: laid · FnExactTrimRules: laid.
  DERIVED. THE GIVEN ROWS OF THIS SEAT. 10 by the template 'for every input the law returns true; each argument reads behind the call as it read before'; 0 by the template 'total and deterministic' (their statements: YtphfolmhlcmbjaaDoorTotals.lean).
  GIVEN WITH THE SEED: the statements are not yours to turn. If you find one false, say at which input.
  Laid BY PROGRAM, IN A SANDBOX (cutbox-rows.mjs): the forced cells as the released guide's own fill.sh prints them over the translation 5051f229d54c2cdc… (all of the seat's roots in one cut). By AI agents, Wed Nov 11 2026. No macro, syntax, notation, axiom, sorry.
-/
import Derived.Test.YtphfolmhlcmbjaaDoorChecked
import GoSem.PinnedTables
import GoSem.Claim
import GoSem.ClaimJoined
import GoSem.ClaimMapViews
import Derived.JoinedTies
import Derived.KernelRfl
namespace Go.Proofs.YtphfolmhlcmbjaaDoor
/- THE CELL 'sum', in the pinned program and in every row, IS THE sha256 OF THE DUMP (.gsa) THAT YtphfolmhlcmbjaaDoorProg.lean LOADS. Nothing in Lean hashes anything: it is a label: what it is worth is what the hold of that sum in a sandbox is worth. -/
noncomputable def Tryd.pinned : Pinned := { name := "ytphfolmhlcmbjaadoor", sum := "5051f229d54c2cdc5097318323f7ea7bab7cf9349eed5831ffc62b14352934d7", checked := Tryd.checked }
namespace Rows
def none {H : Type} : Left H := { results := [], args := [] }

/- WHAT THE LISTED PACKAGE-LEVEL VARIABLES READ AS WHEN THE CALL BEGINS. Each datum BY PROGRAM (the guide's laid-datum.mjs) off the statement by which the dump's own 'gosem.cut.vars' lays the variable. In a bare row this is a premise. The card (YtphfolmhlcmbjaaDoorCards.lean) ties it to the program's text. -/
def laid_unicode_utf8_acceptRanges {H : Type} : DataW H := .agg [.agg [.lit (.int .u8 128), .lit (.int .u8 191)], .agg [.lit (.int .u8 160), .lit (.int .u8 191)], .agg [.lit (.int .u8 128), .lit (.int .u8 159)], .agg [.lit (.int .u8 144), .lit (.int .u8 191)], .agg [.lit (.int .u8 128), .lit (.int .u8 143)], .agg [.lit (.int .u8 0), .lit (.int .u8 0)], .agg [.lit (.int .u8 0), .lit (.int .u8 0)], .agg [.lit (.int .u8 0), .lit (.int .u8 0)], .agg [.lit (.int .u8 0), .lit (.int .u8 0)], .agg [.lit (.int .u8 0), .lit (.int .u8 0)], .agg [.lit (.int .u8 0), .lit (.int .u8 0)], .agg [.lit (.int .u8 0), .lit (.int .u8 0)], .agg [.lit (.int .u8 0), .lit (.int .u8 0)], .agg [.lit (.int .u8 0), .lit (.int .u8 0)], .agg [.lit (.int .u8 0), .lit (.int .u8 0)], .agg [.lit (.int .u8 0), .lit (.int .u8 0)]]
/-- One of Go's own tables, pinned by name: the form's constant. -/
def laid_unicode_utf8_first : DataW Unit := Go.Pinned.utf8First

/-- 'laws.FnValidRules': WHATEVER THE INPUT: true; the input reads as it did. -/
def fnValidRulesSpec : ChangeSpec := { name := "fnValidRules", fn := fun _ => fun
  | [d] => { results := [.lit (.bool true)], args := [d] }
  | _ => none }
def fnValidRulesRow : OpenClaim := { program := "ytphfolmhlcmbjaadoor", sum := "5051f229d54c2cdc5097318323f7ea7bab7cf9349eed5831ffc62b14352934d7", func := "loop.example/lettersthatarrive/laws.FnValidRules", spec := "fnValidRules", inPlace := ["internal/bytealg.IndexByteString", "internal/bytealg.IndexString"], named := ["unicode/utf8.first", "unicode/utf8.acceptRanges", "internal/bytealg.MaxLen"], apart := false, laid := [("unicode/utf8.acceptRanges", laid_unicode_utf8_acceptRanges), ("unicode/utf8.first", laid_unicode_utf8_first)] }
def FnValidRulesSaid : Prop := fnValidRulesRow.holds Tryd.pinned (OpenSpec.ofChange fnValidRulesSpec)

/-- ITS FALSE NEIGHBOUR: 'it returns false'. Refute it at one input. -/
def fnValidRulesWrong : ChangeSpec := { name := "fnValidRules", fn := fun _ => fun
  | [d] => { results := [.lit (.bool false)], args := [d] }
  | _ => none }
def FnValidRulesWrongFalsely : Prop := fnValidRulesRow.holds Tryd.pinned (OpenSpec.ofChange fnValidRulesWrong)

/-- 'laws.FnBoxOf': WHATEVER THE INPUT: true; the input reads as it did. -/
def fnBoxOfSpec : ChangeSpec := { name := "fnBoxOf", fn := fun _ => fun
  | [d] => { results := [.lit (.bool true)], args := [d] }
  | _ => none }
def fnBoxOfRow : OpenClaim := { program := "ytphfolmhlcmbjaadoor", sum := "5051f229d54c2cdc5097318323f7ea7bab7cf9349eed5831ffc62b14352934d7", func := "loop.example/lettersthatarrive/laws.FnBoxOf", spec := "fnBoxOf", inPlace := ["internal/bytealg.IndexByteString", "internal/bytealg.IndexString"], named := ["unicode/utf8.first", "unicode/utf8.acceptRanges", "internal/bytealg.MaxLen"], apart := false, laid := [("unicode/utf8.acceptRanges", laid_unicode_utf8_acceptRanges), ("unicode/utf8.first", laid_unicode_utf8_first)] }
def FnBoxOfSaid : Prop := fnBoxOfRow.holds Tryd.pinned (OpenSpec.ofChange fnBoxOfSpec)

/-- ITS FALSE NEIGHBOUR: 'it returns false'. Refute it at one input. -/
def fnBoxOfWrong : ChangeSpec := { name := "fnBoxOf", fn := fun _ => fun
  | [d] => { results := [.lit (.bool false)], args := [d] }
  | _ => none }
def FnBoxOfWrongFalsely : Prop := fnBoxOfRow.holds Tryd.pinned (OpenSpec.ofChange fnBoxOfWrong)

/-- 'laws.FnSameRules': WHATEVER THE INPUT: true; the input reads as it did. -/
def fnSameRulesSpec : ChangeSpec := { name := "fnSameRules", fn := fun _ => fun
  | [d] => { results := [.lit (.bool true)], args := [d] }
  | _ => none }
def fnSameRulesRow : OpenClaim := { program := "ytphfolmhlcmbjaadoor", sum := "5051f229d54c2cdc5097318323f7ea7bab7cf9349eed5831ffc62b14352934d7", func := "loop.example/lettersthatarrive/laws.FnSameRules", spec := "fnSameRules", inPlace := ["internal/bytealg.IndexByteString", "internal/bytealg.IndexString"], named := ["unicode/utf8.first", "unicode/utf8.acceptRanges", "internal/bytealg.MaxLen"], apart := false, laid := [("unicode/utf8.acceptRanges", laid_unicode_utf8_acceptRanges), ("unicode/utf8.first", laid_unicode_utf8_first)] }
def FnSameRulesSaid : Prop := fnSameRulesRow.holds Tryd.pinned (OpenSpec.ofChange fnSameRulesSpec)

/-- ITS FALSE NEIGHBOUR: 'it returns false'. Refute it at one input. -/
def fnSameRulesWrong : ChangeSpec := { name := "fnSameRules", fn := fun _ => fun
  | [d] => { results := [.lit (.bool false)], args := [d] }
  | _ => none }
def FnSameRulesWrongFalsely : Prop := fnSameRulesRow.holds Tryd.pinned (OpenSpec.ofChange fnSameRulesWrong)

/-- 'laws.FnShadowedOf': WHATEVER THE INPUT: true; the input reads as it did. -/
def fnShadowedOfSpec : ChangeSpec := { name := "fnShadowedOf", fn := fun _ => fun
  | [d] => { results := [.lit (.bool true)], args := [d] }
  | _ => none }
def fnShadowedOfRow : OpenClaim := { program := "ytphfolmhlcmbjaadoor", sum := "5051f229d54c2cdc5097318323f7ea7bab7cf9349eed5831ffc62b14352934d7", func := "loop.example/lettersthatarrive/laws.FnShadowedOf", spec := "fnShadowedOf", inPlace := ["internal/bytealg.IndexByteString", "internal/bytealg.IndexString"], unfollowed := true, recurses := true, named := ["unicode/utf8.first", "unicode/utf8.acceptRanges", "internal/bytealg.MaxLen"], apart := false, laid := [("unicode/utf8.acceptRanges", laid_unicode_utf8_acceptRanges), ("unicode/utf8.first", laid_unicode_utf8_first)] }
def FnShadowedOfSaid : Prop := fnShadowedOfRow.holds Tryd.pinned (OpenSpec.ofChange fnShadowedOfSpec)

/-- ITS FALSE NEIGHBOUR: 'it returns false'. Refute it at one input. -/
def fnShadowedOfWrong : ChangeSpec := { name := "fnShadowedOf", fn := fun _ => fun
  | [d] => { results := [.lit (.bool false)], args := [d] }
  | _ => none }
def FnShadowedOfWrongFalsely : Prop := fnShadowedOfRow.holds Tryd.pinned (OpenSpec.ofChange fnShadowedOfWrong)

/-- 'laws.FnTrimRules': WHATEVER THE INPUT: true; the input reads as it did. -/
def fnTrimRulesSpec : ChangeSpec := { name := "fnTrimRules", fn := fun _ => fun
  | [d] => { results := [.lit (.bool true)], args := [d] }
  | _ => none }
def fnTrimRulesRow : OpenClaim := { program := "ytphfolmhlcmbjaadoor", sum := "5051f229d54c2cdc5097318323f7ea7bab7cf9349eed5831ffc62b14352934d7", func := "loop.example/lettersthatarrive/laws.FnTrimRules", spec := "fnTrimRules", inPlace := ["internal/bytealg.IndexByteString", "internal/bytealg.IndexString"], unfollowed := true, recurses := true, named := ["unicode/utf8.first", "unicode/utf8.acceptRanges", "internal/bytealg.MaxLen"], apart := false, laid := [("unicode/utf8.acceptRanges", laid_unicode_utf8_acceptRanges), ("unicode/utf8.first", laid_unicode_utf8_first)] }
def FnTrimRulesSaid : Prop := fnTrimRulesRow.holds Tryd.pinned (OpenSpec.ofChange fnTrimRulesSpec)

/-- ITS FALSE NEIGHBOUR: 'it returns false'. Refute it at one input. -/
def fnTrimRulesWrong : ChangeSpec := { name := "fnTrimRules", fn := fun _ => fun
  | [d] => { results := [.lit (.bool false)], args := [d] }
  | _ => none }
def FnTrimRulesWrongFalsely : Prop := fnTrimRulesRow.holds Tryd.pinned (OpenSpec.ofChange fnTrimRulesWrong)

/-- 'laws.FnExactValidRules': WHATEVER THE INPUT: true; the input reads as it did. -/
def fnExactValidRulesSpec : ChangeSpec := { name := "fnExactValidRules", fn := fun _ => fun
  | [d] => { results := [.lit (.bool true)], args := [d] }
  | _ => none }
def fnExactValidRulesRow : OpenClaim := { program := "ytphfolmhlcmbjaadoor", sum := "5051f229d54c2cdc5097318323f7ea7bab7cf9349eed5831ffc62b14352934d7", func := "loop.example/lettersthatarrive/laws.FnExactValidRules", spec := "fnExactValidRules", inPlace := ["internal/bytealg.IndexByteString", "internal/bytealg.IndexString"], named := ["unicode/utf8.first", "unicode/utf8.acceptRanges", "internal/bytealg.MaxLen"], apart := false, laid := [("unicode/utf8.acceptRanges", laid_unicode_utf8_acceptRanges), ("unicode/utf8.first", laid_unicode_utf8_first)] }
def FnExactValidRulesSaid : Prop := fnExactValidRulesRow.holds Tryd.pinned (OpenSpec.ofChange fnExactValidRulesSpec)

/-- ITS FALSE NEIGHBOUR: 'it returns false'. Refute it at one input. -/
def fnExactValidRulesWrong : ChangeSpec := { name := "fnExactValidRules", fn := fun _ => fun
  | [d] => { results := [.lit (.bool false)], args := [d] }
  | _ => none }
def FnExactValidRulesWrongFalsely : Prop := fnExactValidRulesRow.holds Tryd.pinned (OpenSpec.ofChange fnExactValidRulesWrong)

/-- 'laws.FnExactBoxOf': WHATEVER THE INPUT: true; the input reads as it did. -/
def fnExactBoxOfSpec : ChangeSpec := { name := "fnExactBoxOf", fn := fun _ => fun
  | [d1, d2] => { results := [.lit (.bool true)], args := [d1, d2] }
  | _ => none }
def fnExactBoxOfRow : OpenClaim := { program := "ytphfolmhlcmbjaadoor", sum := "5051f229d54c2cdc5097318323f7ea7bab7cf9349eed5831ffc62b14352934d7", func := "loop.example/lettersthatarrive/laws.FnExactBoxOf", spec := "fnExactBoxOf", inPlace := ["internal/bytealg.IndexByteString", "internal/bytealg.IndexString"], named := ["unicode/utf8.first", "unicode/utf8.acceptRanges", "internal/bytealg.MaxLen"], apart := false, laid := [("unicode/utf8.acceptRanges", laid_unicode_utf8_acceptRanges), ("unicode/utf8.first", laid_unicode_utf8_first)] }
def FnExactBoxOfSaid : Prop := fnExactBoxOfRow.holds Tryd.pinned (OpenSpec.ofChange fnExactBoxOfSpec)

/-- ITS FALSE NEIGHBOUR: 'it returns false'. Refute it at one input. -/
def fnExactBoxOfWrong : ChangeSpec := { name := "fnExactBoxOf", fn := fun _ => fun
  | [d1, d2] => { results := [.lit (.bool false)], args := [d1, d2] }
  | _ => none }
def FnExactBoxOfWrongFalsely : Prop := fnExactBoxOfRow.holds Tryd.pinned (OpenSpec.ofChange fnExactBoxOfWrong)

/-- 'laws.FnExactSameRules': WHATEVER THE INPUT: true; the input reads as it did. -/
def fnExactSameRulesSpec : ChangeSpec := { name := "fnExactSameRules", fn := fun _ => fun
  | [d1, d2] => { results := [.lit (.bool true)], args := [d1, d2] }
  | _ => none }
def fnExactSameRulesRow : OpenClaim := { program := "ytphfolmhlcmbjaadoor", sum := "5051f229d54c2cdc5097318323f7ea7bab7cf9349eed5831ffc62b14352934d7", func := "loop.example/lettersthatarrive/laws.FnExactSameRules", spec := "fnExactSameRules", inPlace := ["internal/bytealg.IndexByteString", "internal/bytealg.IndexString"], named := ["unicode/utf8.first", "unicode/utf8.acceptRanges", "internal/bytealg.MaxLen"], apart := false, laid := [("unicode/utf8.acceptRanges", laid_unicode_utf8_acceptRanges), ("unicode/utf8.first", laid_unicode_utf8_first)] }
def FnExactSameRulesSaid : Prop := fnExactSameRulesRow.holds Tryd.pinned (OpenSpec.ofChange fnExactSameRulesSpec)

/-- ITS FALSE NEIGHBOUR: 'it returns false'. Refute it at one input. -/
def fnExactSameRulesWrong : ChangeSpec := { name := "fnExactSameRules", fn := fun _ => fun
  | [d1, d2] => { results := [.lit (.bool false)], args := [d1, d2] }
  | _ => none }
def FnExactSameRulesWrongFalsely : Prop := fnExactSameRulesRow.holds Tryd.pinned (OpenSpec.ofChange fnExactSameRulesWrong)

/-- 'laws.FnExactShadowedOf': WHATEVER THE INPUT: true; the input reads as it did. -/
def fnExactShadowedOfSpec : ChangeSpec := { name := "fnExactShadowedOf", fn := fun _ => fun
  | [d] => { results := [.lit (.bool true)], args := [d] }
  | _ => none }
def fnExactShadowedOfRow : OpenClaim := { program := "ytphfolmhlcmbjaadoor", sum := "5051f229d54c2cdc5097318323f7ea7bab7cf9349eed5831ffc62b14352934d7", func := "loop.example/lettersthatarrive/laws.FnExactShadowedOf", spec := "fnExactShadowedOf", inPlace := ["internal/bytealg.IndexByteString", "internal/bytealg.IndexString"], unfollowed := true, recurses := true, named := ["unicode/utf8.first", "unicode/utf8.acceptRanges", "internal/bytealg.MaxLen"], apart := false, laid := [("unicode/utf8.acceptRanges", laid_unicode_utf8_acceptRanges), ("unicode/utf8.first", laid_unicode_utf8_first)] }
def FnExactShadowedOfSaid : Prop := fnExactShadowedOfRow.holds Tryd.pinned (OpenSpec.ofChange fnExactShadowedOfSpec)

/-- ITS FALSE NEIGHBOUR: 'it returns false'. Refute it at one input. -/
def fnExactShadowedOfWrong : ChangeSpec := { name := "fnExactShadowedOf", fn := fun _ => fun
  | [d] => { results := [.lit (.bool false)], args := [d] }
  | _ => none }
def FnExactShadowedOfWrongFalsely : Prop := fnExactShadowedOfRow.holds Tryd.pinned (OpenSpec.ofChange fnExactShadowedOfWrong)

/-- 'laws.FnExactTrimRules': WHATEVER THE INPUT: true; the input reads as it did. -/
def fnExactTrimRulesSpec : ChangeSpec := { name := "fnExactTrimRules", fn := fun _ => fun
  | [d] => { results := [.lit (.bool true)], args := [d] }
  | _ => none }
def fnExactTrimRulesRow : OpenClaim := { program := "ytphfolmhlcmbjaadoor", sum := "5051f229d54c2cdc5097318323f7ea7bab7cf9349eed5831ffc62b14352934d7", func := "loop.example/lettersthatarrive/laws.FnExactTrimRules", spec := "fnExactTrimRules", inPlace := ["internal/bytealg.IndexByteString", "internal/bytealg.IndexString"], unfollowed := true, recurses := true, named := ["unicode/utf8.first", "unicode/utf8.acceptRanges", "internal/bytealg.MaxLen"], apart := false, laid := [("unicode/utf8.acceptRanges", laid_unicode_utf8_acceptRanges), ("unicode/utf8.first", laid_unicode_utf8_first)] }
def FnExactTrimRulesSaid : Prop := fnExactTrimRulesRow.holds Tryd.pinned (OpenSpec.ofChange fnExactTrimRulesSpec)

/-- ITS FALSE NEIGHBOUR: 'it returns false'. Refute it at one input. -/
def fnExactTrimRulesWrong : ChangeSpec := { name := "fnExactTrimRules", fn := fun _ => fun
  | [d] => { results := [.lit (.bool false)], args := [d] }
  | _ => none }
def FnExactTrimRulesWrongFalsely : Prop := fnExactTrimRulesRow.holds Tryd.pinned (OpenSpec.ofChange fnExactTrimRulesWrong)

/- THE SECOND FORM. 'bulk': how many values and letters a reading holds, each counted each time it is reached (what is shared counts as often as it is met; a slice's spare places count too). A statement '..UptoSaid' is the law's where the arguments, and the package variables that the reading takes, are together of bulk at most 1048576: NARROWER than '..Said'. Prove '..Said' where nothing that the law and all that it calls make is longer than what came in: it says more and counts as full. Else prove '..UptoSaid'. A law counts once. -/
mutual
def uptoBulk {H : Type} : DataW H → Nat
  | .lit (.string bytes) => bytes.length + 1
  | .lit _ => 1
  | .nil => 1
  | .ptr d => uptoBulk d + 1
  | .slice elems spare => uptoBulkAll elems + uptoBulkAll spare + 1
  | .agg parts => uptoBulkAll parts + 1
  | .iface _ d => uptoBulk d + 1
  | .map entries => uptoBulkEntries entries + 1
  | .held _ => 1
def uptoBulkAll {H : Type} : List (DataW H) → Nat
  | [] => 0
  | d :: r => uptoBulk d + uptoBulkAll r
def uptoBulkEntries {H : Type} : List (Lit × DataW H) → Nat
  | [] => 0
  | x :: r => uptoBulkEntry x + uptoBulkEntries r
def uptoBulkEntry {H : Type} : Lit × DataW H → Nat
  | (.string bytes, d) => bytes.length + uptoBulk d + 1
  | (_, d) => uptoBulk d + 1
 end
def uptoSmall : (H : Type) → List (DataW H) → Bool := fun _ ds => decide (uptoBulkAll ds ≤ 1048576)
def OpenSpec.upto (s : _root_.Go.ChangeSpec) : _root_.Go.OpenSpec := { _root_.Go.OpenSpec.ofChange s with cond := some uptoSmall }

/-- 'laws.FnValidRules', WHERE WHAT IT READS IS OF BULK AT MOST 1048576: true; the input reads as it did. -/
def fnValidRulesUptoRow : OpenClaim := { program := "ytphfolmhlcmbjaadoor", sum := "5051f229d54c2cdc5097318323f7ea7bab7cf9349eed5831ffc62b14352934d7", func := "loop.example/lettersthatarrive/laws.FnValidRules", spec := "fnValidRules", inPlace := ["internal/bytealg.IndexByteString", "internal/bytealg.IndexString"], named := ["unicode/utf8.first", "unicode/utf8.acceptRanges", "internal/bytealg.MaxLen"], apart := false, laid := [("unicode/utf8.acceptRanges", laid_unicode_utf8_acceptRanges), ("unicode/utf8.first", laid_unicode_utf8_first)], narrowed := true }
def FnValidRulesUptoSaid : Prop := fnValidRulesUptoRow.holds Tryd.pinned (OpenSpec.upto fnValidRulesSpec)

/-- 'laws.FnBoxOf', WHERE WHAT IT READS IS OF BULK AT MOST 1048576: true; the input reads as it did. -/
def fnBoxOfUptoRow : OpenClaim := { program := "ytphfolmhlcmbjaadoor", sum := "5051f229d54c2cdc5097318323f7ea7bab7cf9349eed5831ffc62b14352934d7", func := "loop.example/lettersthatarrive/laws.FnBoxOf", spec := "fnBoxOf", inPlace := ["internal/bytealg.IndexByteString", "internal/bytealg.IndexString"], named := ["unicode/utf8.first", "unicode/utf8.acceptRanges", "internal/bytealg.MaxLen"], apart := false, laid := [("unicode/utf8.acceptRanges", laid_unicode_utf8_acceptRanges), ("unicode/utf8.first", laid_unicode_utf8_first)], narrowed := true }
def FnBoxOfUptoSaid : Prop := fnBoxOfUptoRow.holds Tryd.pinned (OpenSpec.upto fnBoxOfSpec)

/-- 'laws.FnSameRules', WHERE WHAT IT READS IS OF BULK AT MOST 1048576: true; the input reads as it did. -/
def fnSameRulesUptoRow : OpenClaim := { program := "ytphfolmhlcmbjaadoor", sum := "5051f229d54c2cdc5097318323f7ea7bab7cf9349eed5831ffc62b14352934d7", func := "loop.example/lettersthatarrive/laws.FnSameRules", spec := "fnSameRules", inPlace := ["internal/bytealg.IndexByteString", "internal/bytealg.IndexString"], named := ["unicode/utf8.first", "unicode/utf8.acceptRanges", "internal/bytealg.MaxLen"], apart := false, laid := [("unicode/utf8.acceptRanges", laid_unicode_utf8_acceptRanges), ("unicode/utf8.first", laid_unicode_utf8_first)], narrowed := true }
def FnSameRulesUptoSaid : Prop := fnSameRulesUptoRow.holds Tryd.pinned (OpenSpec.upto fnSameRulesSpec)

/-- 'laws.FnShadowedOf', WHERE WHAT IT READS IS OF BULK AT MOST 1048576: true; the input reads as it did. -/
def fnShadowedOfUptoRow : OpenClaim := { program := "ytphfolmhlcmbjaadoor", sum := "5051f229d54c2cdc5097318323f7ea7bab7cf9349eed5831ffc62b14352934d7", func := "loop.example/lettersthatarrive/laws.FnShadowedOf", spec := "fnShadowedOf", inPlace := ["internal/bytealg.IndexByteString", "internal/bytealg.IndexString"], unfollowed := true, recurses := true, named := ["unicode/utf8.first", "unicode/utf8.acceptRanges", "internal/bytealg.MaxLen"], apart := false, laid := [("unicode/utf8.acceptRanges", laid_unicode_utf8_acceptRanges), ("unicode/utf8.first", laid_unicode_utf8_first)], narrowed := true }
def FnShadowedOfUptoSaid : Prop := fnShadowedOfUptoRow.holds Tryd.pinned (OpenSpec.upto fnShadowedOfSpec)

/-- 'laws.FnTrimRules', WHERE WHAT IT READS IS OF BULK AT MOST 1048576: true; the input reads as it did. -/
def fnTrimRulesUptoRow : OpenClaim := { program := "ytphfolmhlcmbjaadoor", sum := "5051f229d54c2cdc5097318323f7ea7bab7cf9349eed5831ffc62b14352934d7", func := "loop.example/lettersthatarrive/laws.FnTrimRules", spec := "fnTrimRules", inPlace := ["internal/bytealg.IndexByteString", "internal/bytealg.IndexString"], unfollowed := true, recurses := true, named := ["unicode/utf8.first", "unicode/utf8.acceptRanges", "internal/bytealg.MaxLen"], apart := false, laid := [("unicode/utf8.acceptRanges", laid_unicode_utf8_acceptRanges), ("unicode/utf8.first", laid_unicode_utf8_first)], narrowed := true }
def FnTrimRulesUptoSaid : Prop := fnTrimRulesUptoRow.holds Tryd.pinned (OpenSpec.upto fnTrimRulesSpec)

/-- 'laws.FnExactValidRules', WHERE WHAT IT READS IS OF BULK AT MOST 1048576: true; the input reads as it did. -/
def fnExactValidRulesUptoRow : OpenClaim := { program := "ytphfolmhlcmbjaadoor", sum := "5051f229d54c2cdc5097318323f7ea7bab7cf9349eed5831ffc62b14352934d7", func := "loop.example/lettersthatarrive/laws.FnExactValidRules", spec := "fnExactValidRules", inPlace := ["internal/bytealg.IndexByteString", "internal/bytealg.IndexString"], named := ["unicode/utf8.first", "unicode/utf8.acceptRanges", "internal/bytealg.MaxLen"], apart := false, laid := [("unicode/utf8.acceptRanges", laid_unicode_utf8_acceptRanges), ("unicode/utf8.first", laid_unicode_utf8_first)], narrowed := true }
def FnExactValidRulesUptoSaid : Prop := fnExactValidRulesUptoRow.holds Tryd.pinned (OpenSpec.upto fnExactValidRulesSpec)

/-- 'laws.FnExactBoxOf', WHERE WHAT IT READS IS OF BULK AT MOST 1048576: true; the input reads as it did. -/
def fnExactBoxOfUptoRow : OpenClaim := { program := "ytphfolmhlcmbjaadoor", sum := "5051f229d54c2cdc5097318323f7ea7bab7cf9349eed5831ffc62b14352934d7", func := "loop.example/lettersthatarrive/laws.FnExactBoxOf", spec := "fnExactBoxOf", inPlace := ["internal/bytealg.IndexByteString", "internal/bytealg.IndexString"], named := ["unicode/utf8.first", "unicode/utf8.acceptRanges", "internal/bytealg.MaxLen"], apart := false, laid := [("unicode/utf8.acceptRanges", laid_unicode_utf8_acceptRanges), ("unicode/utf8.first", laid_unicode_utf8_first)], narrowed := true }
def FnExactBoxOfUptoSaid : Prop := fnExactBoxOfUptoRow.holds Tryd.pinned (OpenSpec.upto fnExactBoxOfSpec)

/-- 'laws.FnExactSameRules', WHERE WHAT IT READS IS OF BULK AT MOST 1048576: true; the input reads as it did. -/
def fnExactSameRulesUptoRow : OpenClaim := { program := "ytphfolmhlcmbjaadoor", sum := "5051f229d54c2cdc5097318323f7ea7bab7cf9349eed5831ffc62b14352934d7", func := "loop.example/lettersthatarrive/laws.FnExactSameRules", spec := "fnExactSameRules", inPlace := ["internal/bytealg.IndexByteString", "internal/bytealg.IndexString"], named := ["unicode/utf8.first", "unicode/utf8.acceptRanges", "internal/bytealg.MaxLen"], apart := false, laid := [("unicode/utf8.acceptRanges", laid_unicode_utf8_acceptRanges), ("unicode/utf8.first", laid_unicode_utf8_first)], narrowed := true }
def FnExactSameRulesUptoSaid : Prop := fnExactSameRulesUptoRow.holds Tryd.pinned (OpenSpec.upto fnExactSameRulesSpec)

/-- 'laws.FnExactShadowedOf', WHERE WHAT IT READS IS OF BULK AT MOST 1048576: true; the input reads as it did. -/
def fnExactShadowedOfUptoRow : OpenClaim := { program := "ytphfolmhlcmbjaadoor", sum := "5051f229d54c2cdc5097318323f7ea7bab7cf9349eed5831ffc62b14352934d7", func := "loop.example/lettersthatarrive/laws.FnExactShadowedOf", spec := "fnExactShadowedOf", inPlace := ["internal/bytealg.IndexByteString", "internal/bytealg.IndexString"], unfollowed := true, recurses := true, named := ["unicode/utf8.first", "unicode/utf8.acceptRanges", "internal/bytealg.MaxLen"], apart := false, laid := [("unicode/utf8.acceptRanges", laid_unicode_utf8_acceptRanges), ("unicode/utf8.first", laid_unicode_utf8_first)], narrowed := true }
def FnExactShadowedOfUptoSaid : Prop := fnExactShadowedOfUptoRow.holds Tryd.pinned (OpenSpec.upto fnExactShadowedOfSpec)

/-- 'laws.FnExactTrimRules', WHERE WHAT IT READS IS OF BULK AT MOST 1048576: true; the input reads as it did. -/
def fnExactTrimRulesUptoRow : OpenClaim := { program := "ytphfolmhlcmbjaadoor", sum := "5051f229d54c2cdc5097318323f7ea7bab7cf9349eed5831ffc62b14352934d7", func := "loop.example/lettersthatarrive/laws.FnExactTrimRules", spec := "fnExactTrimRules", inPlace := ["internal/bytealg.IndexByteString", "internal/bytealg.IndexString"], unfollowed := true, recurses := true, named := ["unicode/utf8.first", "unicode/utf8.acceptRanges", "internal/bytealg.MaxLen"], apart := false, laid := [("unicode/utf8.acceptRanges", laid_unicode_utf8_acceptRanges), ("unicode/utf8.first", laid_unicode_utf8_first)], narrowed := true }
def FnExactTrimRulesUptoSaid : Prop := fnExactTrimRulesUptoRow.holds Tryd.pinned (OpenSpec.upto fnExactTrimRulesSpec)

end Rows
end Go.Proofs.YtphfolmhlcmbjaaDoor
