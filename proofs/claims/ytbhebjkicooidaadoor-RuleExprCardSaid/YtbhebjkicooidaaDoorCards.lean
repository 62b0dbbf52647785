/-
  DERIVED. GIVEN WITH THE SEED: THE CARDS: each row of YtbhebjkicooidaaDoorRows.lean that lists a variable, with what it lists TIED to the program's text (the seventh form; the later family's looks); each row that meets fmt, with fmt's text TOLD by the authors' own Lean function (tested against real Go, not proved from fmt's source: count such statements apart). THE CARD IS WHAT COUNTS. Prove the row's statement (the work); the ties are given (YtbhebjkicooidaaDoorTie.lean); close each card by the builder's one call (the guide's Derived/Test/ToyasCard.lean, 'card_holds'). Laid BY PROGRAM, IN A SANDBOX (cutbox-door.mjs). By AI agents, Wed Nov 11 2026. No macro, syntax, notation, axiom, sorry.
-/
import Derived.Test.YtbhebjkicooidaaDoorRows
import GoSem.ClaimSeven
namespace Go.Proofs.YtbhebjkicooidaaDoor
namespace Rows

/-- THE TIED CARD OF 'hanaperlaw17.RuleChecks'. -/
def ruleChecksCard : Claim7 := { stood := { row := ruleChecksRow, standIns := [], harness := (true, "727a2736016a936c8c4b6a50998193f0dafadd1d2666a6fd97394cf74cf7459a"), looks := false }, kinds := [], alts := [], laidByText := true, laidKinds := [.data, .data, .data], laidTests := true, laidLooks := .later }
def RuleChecksCardSaid : Prop := Claim7.holds Tryd.pinned (.plain (OpenSpec.ofChange ruleChecksSpec)) ruleChecksCard

/-- THE TIED CARD OF 'hanaperlaw17.RuleExpr'. -/
def ruleExprCard : Claim7 := { stood := { row := ruleExprRow, standIns := [], harness := (true, "727a2736016a936c8c4b6a50998193f0dafadd1d2666a6fd97394cf74cf7459a"), looks := false }, kinds := [], alts := [], laidByText := true, laidKinds := [.data, .data, .data], laidTests := true, laidLooks := .later }
def RuleExprCardSaid : Prop := Claim7.holds Tryd.pinned (.plain (OpenSpec.ofChange ruleExprSpec)) ruleExprCard

/-- THE TIED CARD OF 'hanaperlaw17.RuleOne'. -/
def ruleOneCard : Claim7 := { stood := { row := ruleOneRow, standIns := [], harness := (true, "727a2736016a936c8c4b6a50998193f0dafadd1d2666a6fd97394cf74cf7459a"), looks := false }, kinds := [], alts := [], laidByText := true, laidKinds := [.data, .data, .data], laidTests := true, laidLooks := .later }
def RuleOneCardSaid : Prop := Claim7.holds Tryd.pinned (.plain (OpenSpec.ofChange ruleOneSpec)) ruleOneCard

/-- THE SECOND FORM's CARD OF 'hanaperlaw17.RuleChecks'. -/
def ruleChecksUptoCard : Claim7 := { stood := { row := ruleChecksUptoRow, standIns := [], harness := (true, "727a2736016a936c8c4b6a50998193f0dafadd1d2666a6fd97394cf74cf7459a"), looks := false }, kinds := [], alts := [], laidByText := true, laidKinds := [.data, .data, .data], laidTests := true, laidLooks := .later }
def RuleChecksUptoCardSaid : Prop := Claim7.holds Tryd.pinned (.plain (OpenSpec.upto ruleChecksSpec)) ruleChecksUptoCard

/-- THE SECOND FORM's CARD OF 'hanaperlaw17.RuleExpr'. -/
def ruleExprUptoCard : Claim7 := { stood := { row := ruleExprUptoRow, standIns := [], harness := (true, "727a2736016a936c8c4b6a50998193f0dafadd1d2666a6fd97394cf74cf7459a"), looks := false }, kinds := [], alts := [], laidByText := true, laidKinds := [.data, .data, .data], laidTests := true, laidLooks := .later }
def RuleExprUptoCardSaid : Prop := Claim7.holds Tryd.pinned (.plain (OpenSpec.upto ruleExprSpec)) ruleExprUptoCard

/-- THE SECOND FORM's CARD OF 'hanaperlaw17.RuleOne'. -/
def ruleOneUptoCard : Claim7 := { stood := { row := ruleOneUptoRow, standIns := [], harness := (true, "727a2736016a936c8c4b6a50998193f0dafadd1d2666a6fd97394cf74cf7459a"), looks := false }, kinds := [], alts := [], laidByText := true, laidKinds := [.data, .data, .data], laidTests := true, laidLooks := .later }
def RuleOneUptoCardSaid : Prop := Claim7.holds Tryd.pinned (.plain (OpenSpec.upto ruleOneSpec)) ruleOneUptoCard
end Rows
end Go.Proofs.YtbhebjkicooidaaDoor
