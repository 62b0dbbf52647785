/-
  DERIVED. GIVEN WITH THE SEED: THE CARDS: each row of YtjcdkfnjlmofiaaDoorRows.lean that lists a variable, with what it lists TIED to the program's text (the seventh form; the later family's looks); each row that meets fmt, with fmt's text TOLD by the authors' own Lean function (tested against real Go, not proved from fmt's source: count such statements apart). THE CARD IS WHAT COUNTS. Prove the row's statement (the work); the ties are given (YtjcdkfnjlmofiaaDoorTie.lean); close each card by the builder's one call (the guide's Derived/Test/ToyasCard.lean, 'card_holds'). Laid BY PROGRAM, IN A SANDBOX (cutbox-door.mjs). By AI agents, Wed Nov 11 2026. No macro, syntax, notation, axiom, sorry.
-/
import Derived.Test.YtjcdkfnjlmofiaaDoorRows
import GoSem.ClaimSeven
namespace Go.Proofs.YtjcdkfnjlmofiaaDoor
namespace Rows

/-- THE TIED CARD OF 'hanaperlaw07.CommitOf'. -/
def commitOfCard : Claim7 := { stood := { row := commitOfRow, standIns := [], harness := (true, "e31c47d4d14e27258e2f23ecd955ae2db3ce04662ce7c4d5612506d5711e1c7a"), looks := false }, kinds := [], alts := [], laidByText := true, laidKinds := [.data], laidTests := true, laidLooks := .later }
def CommitOfCardSaid : Prop := Claim7.holds Tryd.pinned (.plain (OpenSpec.ofChange commitOfSpec)) commitOfCard

/-- THE TIED CARD OF 'hanaperlaw07.CommitLinks'. -/
def commitLinksCard : Claim7 := { stood := { row := commitLinksRow, standIns := [], harness := (true, "e31c47d4d14e27258e2f23ecd955ae2db3ce04662ce7c4d5612506d5711e1c7a"), looks := false }, kinds := [], alts := [], laidByText := true, laidKinds := [.data], laidTests := true, laidLooks := .later }
def CommitLinksCardSaid : Prop := Claim7.holds Tryd.pinned (.plain (OpenSpec.ofChange commitLinksSpec)) commitLinksCard

/-- THE TIED CARD OF 'hanaperlaw07.CommitBinds'. -/
def commitBindsCard : Claim7 := { stood := { row := commitBindsRow, standIns := [], harness := (true, "e31c47d4d14e27258e2f23ecd955ae2db3ce04662ce7c4d5612506d5711e1c7a"), looks := false }, kinds := [], alts := [], laidByText := true, laidKinds := [.data], laidTests := true, laidLooks := .later }
def CommitBindsCardSaid : Prop := Claim7.holds Tryd.pinned (.plain (OpenSpec.ofChange commitBindsSpec)) commitBindsCard

/-- THE SECOND FORM's CARD OF 'hanaperlaw07.CommitOf'. -/
def commitOfUptoCard : Claim7 := { stood := { row := commitOfUptoRow, standIns := [], harness := (true, "e31c47d4d14e27258e2f23ecd955ae2db3ce04662ce7c4d5612506d5711e1c7a"), looks := false }, kinds := [], alts := [], laidByText := true, laidKinds := [.data], laidTests := true, laidLooks := .later }
def CommitOfUptoCardSaid : Prop := Claim7.holds Tryd.pinned (.plain (OpenSpec.upto commitOfSpec)) commitOfUptoCard

/-- THE SECOND FORM's CARD OF 'hanaperlaw07.CommitLinks'. -/
def commitLinksUptoCard : Claim7 := { stood := { row := commitLinksUptoRow, standIns := [], harness := (true, "e31c47d4d14e27258e2f23ecd955ae2db3ce04662ce7c4d5612506d5711e1c7a"), looks := false }, kinds := [], alts := [], laidByText := true, laidKinds := [.data], laidTests := true, laidLooks := .later }
def CommitLinksUptoCardSaid : Prop := Claim7.holds Tryd.pinned (.plain (OpenSpec.upto commitLinksSpec)) commitLinksUptoCard

/-- THE SECOND FORM's CARD OF 'hanaperlaw07.CommitBinds'. -/
def commitBindsUptoCard : Claim7 := { stood := { row := commitBindsUptoRow, standIns := [], harness := (true, "e31c47d4d14e27258e2f23ecd955ae2db3ce04662ce7c4d5612506d5711e1c7a"), looks := false }, kinds := [], alts := [], laidByText := true, laidKinds := [.data], laidTests := true, laidLooks := .later }
def CommitBindsUptoCardSaid : Prop := Claim7.holds Tryd.pinned (.plain (OpenSpec.upto commitBindsSpec)) commitBindsUptoCard
end Rows
end Go.Proofs.YtjcdkfnjlmofiaaDoor
