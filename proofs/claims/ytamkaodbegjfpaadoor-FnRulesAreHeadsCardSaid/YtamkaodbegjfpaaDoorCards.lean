/-
  DERIVED. GIVEN WITH THE SEED: THE CARDS: each row of YtamkaodbegjfpaaDoorRows.lean that lists a variable, with what it lists TIED to the program's text (the seventh form; the later family's looks); each row that meets fmt, with fmt's text TOLD by the authors' own Lean function (tested against real Go, not proved from fmt's source: count such statements apart). THE CARD IS WHAT COUNTS. Prove the row's statement (the work); the ties are given (YtamkaodbegjfpaaDoorTie.lean); close each card by the builder's one call (the guide's Derived/Test/ToyasCard.lean, 'card_holds'). Laid BY PROGRAM, IN A SANDBOX (cutbox-door.mjs). By AI agents, Wed Nov 11 2026. No macro, syntax, notation, axiom, sorry.
-/
import Derived.Test.YtamkaodbegjfpaaDoorRows
import GoSem.ClaimSeven
namespace Go.Proofs.YtamkaodbegjfpaaDoor
namespace Rows

/-- THE TIED CARD OF 'laws.FnRulesAreHeads'. -/
def fnRulesAreHeadsCard : Claim7 := { stood := { row := fnRulesAreHeadsRow, standIns := [], harness := (true, "5ef8f80758a0682696c27686138daf9043feac839cf91810e7b6e86966897fe5"), looks := false }, kinds := [], alts := [], laidByText := true, laidKinds := [.data, .pinned], laidTests := true, laidLooks := .later }
def FnRulesAreHeadsCardSaid : Prop := Claim7.holds Tryd.pinned (.plain (OpenSpec.ofChange fnRulesAreHeadsSpec)) fnRulesAreHeadsCard

/-- THE SECOND FORM's CARD OF 'laws.FnRulesAreHeads'. -/
def fnRulesAreHeadsUptoCard : Claim7 := { stood := { row := fnRulesAreHeadsUptoRow, standIns := [], harness := (true, "5ef8f80758a0682696c27686138daf9043feac839cf91810e7b6e86966897fe5"), looks := false }, kinds := [], alts := [], laidByText := true, laidKinds := [.data, .pinned], laidTests := true, laidLooks := .later }
def FnRulesAreHeadsUptoCardSaid : Prop := Claim7.holds Tryd.pinned (.plain (OpenSpec.upto fnRulesAreHeadsSpec)) fnRulesAreHeadsUptoCard
end Rows
end Go.Proofs.YtamkaodbegjfpaaDoor
