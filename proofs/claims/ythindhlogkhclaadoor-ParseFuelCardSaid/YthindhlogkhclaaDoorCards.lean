/-
  DERIVED. GIVEN WITH THE SEED: THE CARDS: each row of YthindhlogkhclaaDoorRows.lean that lists a variable, with what it lists TIED to the program's text (the seventh form; the later family's looks); each row that meets fmt, with fmt's text TOLD by the authors' own Lean function (tested against real Go, not proved from fmt's source: count such statements apart). THE CARD IS WHAT COUNTS. Prove the row's statement (the work); the ties are given (YthindhlogkhclaaDoorTie.lean); close each card by the builder's one call (the guide's Derived/Test/ToyasCard.lean, 'card_holds'). Laid BY PROGRAM, IN A SANDBOX (cutbox-door.mjs). By AI agents, Wed Nov 11 2026. No macro, syntax, notation, axiom, sorry.
-/
import Derived.Test.YthindhlogkhclaaDoorRows
import GoSem.ClaimSeven
namespace Go.Proofs.YthindhlogkhclaaDoor
namespace Rows

/-- THE TIED CARD OF 'hanaperlaw18.ParseBack'. -/
def parseBackCard : Claim7 := { stood := { row := parseBackRow, standIns := [], harness := (true, "76d96cb25872229ad46d06cd8d2dff77c87400192f4b60e9640c2bc6822451cc"), looks := false }, kinds := [], alts := [], laidByText := true, laidKinds := [.data, .pinned], laidTests := true, laidLooks := .later }
def ParseBackCardSaid : Prop := Claim7.holds Tryd.pinned (.plain (OpenSpec.ofChange parseBackSpec)) parseBackCard

/-- THE TIED CARD OF 'hanaperlaw18.ParseFuel'. -/
def parseFuelCard : Claim7 := { stood := { row := parseFuelRow, standIns := [], harness := (true, "76d96cb25872229ad46d06cd8d2dff77c87400192f4b60e9640c2bc6822451cc"), looks := false }, kinds := [], alts := [], laidByText := true, laidKinds := [.data, .pinned], laidTests := true, laidLooks := .later }
def ParseFuelCardSaid : Prop := Claim7.holds Tryd.pinned (.plain (OpenSpec.ofChange parseFuelSpec)) parseFuelCard

/-- THE SECOND FORM's CARD OF 'hanaperlaw18.ParseBack'. -/
def parseBackUptoCard : Claim7 := { stood := { row := parseBackUptoRow, standIns := [], harness := (true, "76d96cb25872229ad46d06cd8d2dff77c87400192f4b60e9640c2bc6822451cc"), looks := false }, kinds := [], alts := [], laidByText := true, laidKinds := [.data, .pinned], laidTests := true, laidLooks := .later }
def ParseBackUptoCardSaid : Prop := Claim7.holds Tryd.pinned (.plain (OpenSpec.upto parseBackSpec)) parseBackUptoCard

/-- THE SECOND FORM's CARD OF 'hanaperlaw18.ParseFuel'. -/
def parseFuelUptoCard : Claim7 := { stood := { row := parseFuelUptoRow, standIns := [], harness := (true, "76d96cb25872229ad46d06cd8d2dff77c87400192f4b60e9640c2bc6822451cc"), looks := false }, kinds := [], alts := [], laidByText := true, laidKinds := [.data, .pinned], laidTests := true, laidLooks := .later }
def ParseFuelUptoCardSaid : Prop := Claim7.holds Tryd.pinned (.plain (OpenSpec.upto parseFuelSpec)) parseFuelUptoCard
end Rows
end Go.Proofs.YthindhlogkhclaaDoor
