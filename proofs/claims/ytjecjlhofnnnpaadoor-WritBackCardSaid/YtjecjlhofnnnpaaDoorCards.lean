/-
  DERIVED. GIVEN WITH THE SEED: THE CARDS: each row of YtjecjlhofnnnpaaDoorRows.lean that lists a variable, with what it lists TIED to the program's text (the seventh form; the later family's looks); each row that meets fmt, with fmt's text TOLD by the authors' own Lean function (tested against real Go, not proved from fmt's source: count such statements apart). THE CARD IS WHAT COUNTS. Prove the row's statement (the work); the ties are given (YtjecjlhofnnnpaaDoorTie.lean); close each card by the builder's one call (the guide's Derived/Test/ToyasCard.lean, 'card_holds'). Laid BY PROGRAM, IN A SANDBOX (cutbox-door.mjs). By AI agents, Wed Nov 11 2026. No macro, syntax, notation, axiom, sorry.
-/
import Derived.Test.YtjecjlhofnnnpaaDoorRows
import GoSem.ClaimSeven
namespace Go.Proofs.YtjecjlhofnnnpaaDoor
namespace Rows

/-- THE TIED CARD OF 'hanaperlaw21.WritBack'. -/
def writBackCard : Claim7 := { stood := { row := writBackRow, standIns := [], harness := (true, "ad864b7aaf1d4ac69ae8b8f47d0af5e3cf9bc995c1361da366ab580c1331484c"), looks := true }, kinds := [], alts := [], laidByText := true, laidKinds := [.data, .data, .data, .data, .sentinel, .sentinel, .pinned], laidTests := true, laidLooks := .later }
def WritBackCardSaid : Prop := Claim7.holds Tryd.pinned (.plain (OpenSpec.ofChange writBackSpec)) writBackCard

/-- THE SECOND FORM's CARD OF 'hanaperlaw21.WritBack'. -/
def writBackUptoCard : Claim7 := { stood := { row := writBackUptoRow, standIns := [], harness := (true, "ad864b7aaf1d4ac69ae8b8f47d0af5e3cf9bc995c1361da366ab580c1331484c"), looks := true }, kinds := [], alts := [], laidByText := true, laidKinds := [.data, .data, .data, .data, .sentinel, .sentinel, .pinned], laidTests := true, laidLooks := .later }
def WritBackUptoCardSaid : Prop := Claim7.holds Tryd.pinned (.plain (OpenSpec.upto writBackSpec)) writBackUptoCard
end Rows
end Go.Proofs.YtjecjlhofnnnpaaDoor
