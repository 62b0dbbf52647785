/-
  DERIVED. GIVEN WITH THE SEED: THE CARDS: each row of YthindhlogkhclaaGreatDoorRows.lean that lists a variable, with what it lists TIED to the program's text (the seventh form; the later family's looks); each row that meets fmt, with fmt's text TOLD by the authors' own Lean function (tested against real Go, not proved from fmt's source: count such statements apart). THE CARD IS WHAT COUNTS. Prove the row's statement (the work); the ties are given (YthindhlogkhclaaGreatDoorTie.lean); close each card by the builder's one call (the guide's Derived/Test/ToyasCard.lean, 'card_holds'). Laid BY PROGRAM, IN A SANDBOX (cutbox-door.mjs). By AI agents, Wed Nov 11 2026. No macro, syntax, notation, axiom, sorry.
-/
import Derived.Test.YthindhlogkhclaaGreatDoorRows
import GoSem.ClaimSeven
namespace Go.Proofs.YthindhlogkhclaaGreatDoor
namespace Rows

/-- THE TIED CARD OF 'hanaperlaw18.ParseRules'. -/
def parseRulesCard : Claim7 := { stood := { row := parseRulesRow, standIns := [], harness := (true, "d45d4be5d8c2caed4e0e6fcd4ee442117485ec57b00751f10739f5b5f5ef8946"), looks := false }, kinds := [], alts := [], laidByText := true, laidKinds := [.data, .pinned], laidTests := true, laidLooks := .later }
def ParseRulesCardSaid : Prop := Claim7.holds Tryz.pinned (.plain (OpenSpec.ofChange parseRulesSpec)) parseRulesCard

/-- THE SECOND FORM's CARD OF 'hanaperlaw18.ParseRules'. -/
def parseRulesUptoCard : Claim7 := { stood := { row := parseRulesUptoRow, standIns := [], harness := (true, "d45d4be5d8c2caed4e0e6fcd4ee442117485ec57b00751f10739f5b5f5ef8946"), looks := false }, kinds := [], alts := [], laidByText := true, laidKinds := [.data, .pinned], laidTests := true, laidLooks := .later }
def ParseRulesUptoCardSaid : Prop := Claim7.holds Tryz.pinned (.plain (OpenSpec.upto parseRulesSpec)) parseRulesUptoCard
end Rows
end Go.Proofs.YthindhlogkhclaaGreatDoor
