/-
  DERIVED. GIVEN WITH THE SEED: THE CARDS: each row of YtgoifhpinoodgaaGreatDoorRows.lean that lists a variable, with what it lists TIED to the program's text (the seventh form; the later family's looks); each row that meets fmt, with fmt's text TOLD by the authors' own Lean function (tested against real Go, not proved from fmt's source: count such statements apart). THE CARD IS WHAT COUNTS. Prove the row's statement (the work); the ties are given (YtgoifhpinoodgaaGreatDoorTie.lean); close each card by the builder's one call (the guide's Derived/Test/ToyasCard.lean, 'card_holds'). Laid BY PROGRAM, IN A SANDBOX (cutbox-door.mjs). By AI agents, Wed Nov 11 2026. No macro, syntax, notation, axiom, sorry.
-/
import Derived.Test.YtgoifhpinoodgaaGreatDoorRows
import GoSem.ClaimSeven
namespace Go.Proofs.YtgoifhpinoodgaaGreatDoor
namespace Rows

/-- THE TIED CARD OF 'hanaperlaw10.WalAtomic'. -/
def walAtomicCard : Claim7 := { stood := { row := walAtomicRow, standIns := [], harness := (true, "1c8143d79b14e9abfd5ec998f9786e6bc0e762d8cc8719df4b315136ecec63ab"), looks := false }, kinds := [], alts := [], laidByText := true, laidKinds := [.data], laidTests := true, laidLooks := .later }
def WalAtomicCardSaid : Prop := Claim7.holds Tryz.pinned (.plain (OpenSpec.ofChange walAtomicSpec)) walAtomicCard

/-- THE SECOND FORM's CARD OF 'hanaperlaw10.WalAtomic'. -/
def walAtomicUptoCard : Claim7 := { stood := { row := walAtomicUptoRow, standIns := [], harness := (true, "1c8143d79b14e9abfd5ec998f9786e6bc0e762d8cc8719df4b315136ecec63ab"), looks := false }, kinds := [], alts := [], laidByText := true, laidKinds := [.data], laidTests := true, laidLooks := .later }
def WalAtomicUptoCardSaid : Prop := Claim7.holds Tryz.pinned (.plain (OpenSpec.upto walAtomicSpec)) walAtomicUptoCard
end Rows
end Go.Proofs.YtgoifhpinoodgaaGreatDoor
