/-
  DERIVED. GIVEN WITH THE SEED: THE CARDS: each row of YtphfolmhlcmbjaaDoorRows.lean that lists a variable, with what it lists TIED to the program's text (the seventh form; the later family's looks); each row that meets fmt, with fmt's text TOLD by the authors' own Lean function (tested against real Go, not proved from fmt's source: count such statements apart). THE CARD IS WHAT COUNTS. Prove the row's statement (the work); the ties are given (YtphfolmhlcmbjaaDoorTie.lean); close each card by the builder's one call (the guide's Derived/Test/ToyasCard.lean, 'card_holds'). Laid BY PROGRAM, IN A SANDBOX (cutbox-door.mjs). By AI agents, Wed Nov 11 2026. No macro, syntax, notation, axiom, sorry.
-/
import Derived.Test.YtphfolmhlcmbjaaDoorRows
import GoSem.ClaimSeven
namespace Go.Proofs.YtphfolmhlcmbjaaDoor
namespace Rows

/-- THE TIED CARD OF 'laws.FnValidRules'. -/
def fnValidRulesCard : Claim7 := { stood := { row := fnValidRulesRow, standIns := [], harness := (true, "659f0bb15c0eabccdd61762e8d1acd63409e520b62a0b498dc2d297fe077d647"), looks := false }, kinds := [], alts := [], laidByText := true, laidKinds := [.data, .pinned], laidTests := true, laidLooks := .later }
def FnValidRulesCardSaid : Prop := Claim7.holds Tryd.pinned (.plain (OpenSpec.ofChange fnValidRulesSpec)) fnValidRulesCard

/-- THE TIED CARD OF 'laws.FnBoxOf'. -/
def fnBoxOfCard : Claim7 := { stood := { row := fnBoxOfRow, standIns := [], harness := (true, "659f0bb15c0eabccdd61762e8d1acd63409e520b62a0b498dc2d297fe077d647"), looks := false }, kinds := [], alts := [], laidByText := true, laidKinds := [.data, .pinned], laidTests := true, laidLooks := .later }
def FnBoxOfCardSaid : Prop := Claim7.holds Tryd.pinned (.plain (OpenSpec.ofChange fnBoxOfSpec)) fnBoxOfCard

/-- THE TIED CARD OF 'laws.FnSameRules'. -/
def fnSameRulesCard : Claim7 := { stood := { row := fnSameRulesRow, standIns := [], harness := (true, "659f0bb15c0eabccdd61762e8d1acd63409e520b62a0b498dc2d297fe077d647"), looks := false }, kinds := [], alts := [], laidByText := true, laidKinds := [.data, .pinned], laidTests := true, laidLooks := .later }
def FnSameRulesCardSaid : Prop := Claim7.holds Tryd.pinned (.plain (OpenSpec.ofChange fnSameRulesSpec)) fnSameRulesCard

/-- THE TIED CARD OF 'laws.FnShadowedOf'. -/
def fnShadowedOfCard : Claim7 := { stood := { row := fnShadowedOfRow, standIns := [], harness := (true, "659f0bb15c0eabccdd61762e8d1acd63409e520b62a0b498dc2d297fe077d647"), looks := false }, kinds := [], alts := [], laidByText := true, laidKinds := [.data, .pinned], laidTests := true, laidLooks := .later }
def FnShadowedOfCardSaid : Prop := Claim7.holds Tryd.pinned (.plain (OpenSpec.ofChange fnShadowedOfSpec)) fnShadowedOfCard

/-- THE TIED CARD OF 'laws.FnTrimRules'. -/
def fnTrimRulesCard : Claim7 := { stood := { row := fnTrimRulesRow, standIns := [], harness := (true, "659f0bb15c0eabccdd61762e8d1acd63409e520b62a0b498dc2d297fe077d647"), looks := false }, kinds := [], alts := [], laidByText := true, laidKinds := [.data, .pinned], laidTests := true, laidLooks := .later }
def FnTrimRulesCardSaid : Prop := Claim7.holds Tryd.pinned (.plain (OpenSpec.ofChange fnTrimRulesSpec)) fnTrimRulesCard

/-- THE TIED CARD OF 'laws.FnExactValidRules'. -/
def fnExactValidRulesCard : Claim7 := { stood := { row := fnExactValidRulesRow, standIns := [], harness := (true, "659f0bb15c0eabccdd61762e8d1acd63409e520b62a0b498dc2d297fe077d647"), looks := false }, kinds := [], alts := [], laidByText := true, laidKinds := [.data, .pinned], laidTests := true, laidLooks := .later }
def FnExactValidRulesCardSaid : Prop := Claim7.holds Tryd.pinned (.plain (OpenSpec.ofChange fnExactValidRulesSpec)) fnExactValidRulesCard

/-- THE TIED CARD OF 'laws.FnExactBoxOf'. -/
def fnExactBoxOfCard : Claim7 := { stood := { row := fnExactBoxOfRow, standIns := [], harness := (true, "659f0bb15c0eabccdd61762e8d1acd63409e520b62a0b498dc2d297fe077d647"), looks := false }, kinds := [], alts := [], laidByText := true, laidKinds := [.data, .pinned], laidTests := true, laidLooks := .later }
def FnExactBoxOfCardSaid : Prop := Claim7.holds Tryd.pinned (.plain (OpenSpec.ofChange fnExactBoxOfSpec)) fnExactBoxOfCard

/-- THE TIED CARD OF 'laws.FnExactSameRules'. -/
def fnExactSameRulesCard : Claim7 := { stood := { row := fnExactSameRulesRow, standIns := [], harness := (true, "659f0bb15c0eabccdd61762e8d1acd63409e520b62a0b498dc2d297fe077d647"), looks := false }, kinds := [], alts := [], laidByText := true, laidKinds := [.data, .pinned], laidTests := true, laidLooks := .later }
def FnExactSameRulesCardSaid : Prop := Claim7.holds Tryd.pinned (.plain (OpenSpec.ofChange fnExactSameRulesSpec)) fnExactSameRulesCard

/-- THE TIED CARD OF 'laws.FnExactShadowedOf'. -/
def fnExactShadowedOfCard : Claim7 := { stood := { row := fnExactShadowedOfRow, standIns := [], harness := (true, "659f0bb15c0eabccdd61762e8d1acd63409e520b62a0b498dc2d297fe077d647"), looks := false }, kinds := [], alts := [], laidByText := true, laidKinds := [.data, .pinned], laidTests := true, laidLooks := .later }
def FnExactShadowedOfCardSaid : Prop := Claim7.holds Tryd.pinned (.plain (OpenSpec.ofChange fnExactShadowedOfSpec)) fnExactShadowedOfCard

/-- THE TIED CARD OF 'laws.FnExactTrimRules'. -/
def fnExactTrimRulesCard : Claim7 := { stood := { row := fnExactTrimRulesRow, standIns := [], harness := (true, "659f0bb15c0eabccdd61762e8d1acd63409e520b62a0b498dc2d297fe077d647"), looks := false }, kinds := [], alts := [], laidByText := true, laidKinds := [.data, .pinned], laidTests := true, laidLooks := .later }
def FnExactTrimRulesCardSaid : Prop := Claim7.holds Tryd.pinned (.plain (OpenSpec.ofChange fnExactTrimRulesSpec)) fnExactTrimRulesCard

/-- THE SECOND FORM's CARD OF 'laws.FnValidRules'. -/
def fnValidRulesUptoCard : Claim7 := { stood := { row := fnValidRulesUptoRow, standIns := [], harness := (true, "659f0bb15c0eabccdd61762e8d1acd63409e520b62a0b498dc2d297fe077d647"), looks := false }, kinds := [], alts := [], laidByText := true, laidKinds := [.data, .pinned], laidTests := true, laidLooks := .later }
def FnValidRulesUptoCardSaid : Prop := Claim7.holds Tryd.pinned (.plain (OpenSpec.upto fnValidRulesSpec)) fnValidRulesUptoCard

/-- THE SECOND FORM's CARD OF 'laws.FnBoxOf'. -/
def fnBoxOfUptoCard : Claim7 := { stood := { row := fnBoxOfUptoRow, standIns := [], harness := (true, "659f0bb15c0eabccdd61762e8d1acd63409e520b62a0b498dc2d297fe077d647"), looks := false }, kinds := [], alts := [], laidByText := true, laidKinds := [.data, .pinned], laidTests := true, laidLooks := .later }
def FnBoxOfUptoCardSaid : Prop := Claim7.holds Tryd.pinned (.plain (OpenSpec.upto fnBoxOfSpec)) fnBoxOfUptoCard

/-- THE SECOND FORM's CARD OF 'laws.FnSameRules'. -/
def fnSameRulesUptoCard : Claim7 := { stood := { row := fnSameRulesUptoRow, standIns := [], harness := (true, "659f0bb15c0eabccdd61762e8d1acd63409e520b62a0b498dc2d297fe077d647"), looks := false }, kinds := [], alts := [], laidByText := true, laidKinds := [.data, .pinned], laidTests := true, laidLooks := .later }
def FnSameRulesUptoCardSaid : Prop := Claim7.holds Tryd.pinned (.plain (OpenSpec.upto fnSameRulesSpec)) fnSameRulesUptoCard

/-- THE SECOND FORM's CARD OF 'laws.FnShadowedOf'. -/
def fnShadowedOfUptoCard : Claim7 := { stood := { row := fnShadowedOfUptoRow, standIns := [], harness := (true, "659f0bb15c0eabccdd61762e8d1acd63409e520b62a0b498dc2d297fe077d647"), looks := false }, kinds := [], alts := [], laidByText := true, laidKinds := [.data, .pinned], laidTests := true, laidLooks := .later }
def FnShadowedOfUptoCardSaid : Prop := Claim7.holds Tryd.pinned (.plain (OpenSpec.upto fnShadowedOfSpec)) fnShadowedOfUptoCard

/-- THE SECOND FORM's CARD OF 'laws.FnTrimRules'. -/
def fnTrimRulesUptoCard : Claim7 := { stood := { row := fnTrimRulesUptoRow, standIns := [], harness := (true, "659f0bb15c0eabccdd61762e8d1acd63409e520b62a0b498dc2d297fe077d647"), looks := false }, kinds := [], alts := [], laidByText := true, laidKinds := [.data, .pinned], laidTests := true, laidLooks := .later }
def FnTrimRulesUptoCardSaid : Prop := Claim7.holds Tryd.pinned (.plain (OpenSpec.upto fnTrimRulesSpec)) fnTrimRulesUptoCard

/-- THE SECOND FORM's CARD OF 'laws.FnExactValidRules'. -/
def fnExactValidRulesUptoCard : Claim7 := { stood := { row := fnExactValidRulesUptoRow, standIns := [], harness := (true, "659f0bb15c0eabccdd61762e8d1acd63409e520b62a0b498dc2d297fe077d647"), looks := false }, kinds := [], alts := [], laidByText := true, laidKinds := [.data, .pinned], laidTests := true, laidLooks := .later }
def FnExactValidRulesUptoCardSaid : Prop := Claim7.holds Tryd.pinned (.plain (OpenSpec.upto fnExactValidRulesSpec)) fnExactValidRulesUptoCard

/-- THE SECOND FORM's CARD OF 'laws.FnExactBoxOf'. -/
def fnExactBoxOfUptoCard : Claim7 := { stood := { row := fnExactBoxOfUptoRow, standIns := [], harness := (true, "659f0bb15c0eabccdd61762e8d1acd63409e520b62a0b498dc2d297fe077d647"), looks := false }, kinds := [], alts := [], laidByText := true, laidKinds := [.data, .pinned], laidTests := true, laidLooks := .later }
def FnExactBoxOfUptoCardSaid : Prop := Claim7.holds Tryd.pinned (.plain (OpenSpec.upto fnExactBoxOfSpec)) fnExactBoxOfUptoCard

/-- THE SECOND FORM's CARD OF 'laws.FnExactSameRules'. -/
def fnExactSameRulesUptoCard : Claim7 := { stood := { row := fnExactSameRulesUptoRow, standIns := [], harness := (true, "659f0bb15c0eabccdd61762e8d1acd63409e520b62a0b498dc2d297fe077d647"), looks := false }, kinds := [], alts := [], laidByText := true, laidKinds := [.data, .pinned], laidTests := true, laidLooks := .later }
def FnExactSameRulesUptoCardSaid : Prop := Claim7.holds Tryd.pinned (.plain (OpenSpec.upto fnExactSameRulesSpec)) fnExactSameRulesUptoCard

/-- THE SECOND FORM's CARD OF 'laws.FnExactShadowedOf'. -/
def fnExactShadowedOfUptoCard : Claim7 := { stood := { row := fnExactShadowedOfUptoRow, standIns := [], harness := (true, "659f0bb15c0eabccdd61762e8d1acd63409e520b62a0b498dc2d297fe077d647"), looks := false }, kinds := [], alts := [], laidByText := true, laidKinds := [.data, .pinned], laidTests := true, laidLooks := .later }
def FnExactShadowedOfUptoCardSaid : Prop := Claim7.holds Tryd.pinned (.plain (OpenSpec.upto fnExactShadowedOfSpec)) fnExactShadowedOfUptoCard

/-- THE SECOND FORM's CARD OF 'laws.FnExactTrimRules'. -/
def fnExactTrimRulesUptoCard : Claim7 := { stood := { row := fnExactTrimRulesUptoRow, standIns := [], harness := (true, "659f0bb15c0eabccdd61762e8d1acd63409e520b62a0b498dc2d297fe077d647"), looks := false }, kinds := [], alts := [], laidByText := true, laidKinds := [.data, .pinned], laidTests := true, laidLooks := .later }
def FnExactTrimRulesUptoCardSaid : Prop := Claim7.holds Tryd.pinned (.plain (OpenSpec.upto fnExactTrimRulesSpec)) fnExactTrimRulesUptoCard
end Rows
end Go.Proofs.YtphfolmhlcmbjaaDoor
