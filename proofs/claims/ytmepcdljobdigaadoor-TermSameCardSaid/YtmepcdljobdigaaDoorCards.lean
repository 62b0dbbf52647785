/-
  DERIVED. GIVEN WITH THE SEED: THE CARDS: each row of YtmepcdljobdigaaDoorRows.lean that lists a variable, with what it lists TIED to the program's text (the seventh form; the later family's looks); each row that meets fmt, with fmt's text TOLD by the authors' own Lean function (tested against real Go, not proved from fmt's source: count such statements apart). THE CARD IS WHAT COUNTS. Prove the row's statement (the work); the ties are given (YtmepcdljobdigaaDoorTie.lean); close each card by the builder's one call (the guide's Derived/Test/ToyasCard.lean, 'card_holds'). Laid BY PROGRAM, IN A SANDBOX (cutbox-door.mjs). By AI agents, Wed Nov 11 2026. No macro, syntax, notation, axiom, sorry.
-/
import Derived.Test.YtmepcdljobdigaaDoorRows
import GoSem.ClaimSeven
namespace Go.Proofs.YtmepcdljobdigaaDoor
namespace Rows

/-- THE TIED CARD OF 'hanaperlaw05.TermPuts'. -/
def termPutsCard : Claim7 := { stood := { row := termPutsRow, standIns := [], harness := (true, "24ba38dfccc9d0aeba40b5b62883594c0569c63ef2315ca722b8a1864dfae566"), looks := false }, kinds := [], alts := [], laidByText := true, laidKinds := [.data], laidTests := true, laidLooks := .later }
def TermPutsCardSaid : Prop := Claim7.holds Tryd.pinned (.plain (OpenSpec.ofChange termPutsSpec)) termPutsCard

/-- THE TIED CARD OF 'hanaperlaw05.TermGets'. -/
def termGetsCard : Claim7 := { stood := { row := termGetsRow, standIns := [], harness := (true, "24ba38dfccc9d0aeba40b5b62883594c0569c63ef2315ca722b8a1864dfae566"), looks := false }, kinds := [], alts := [], laidByText := true, laidKinds := [.data], laidTests := true, laidLooks := .later }
def TermGetsCardSaid : Prop := Claim7.holds Tryd.pinned (.plain (OpenSpec.ofChange termGetsSpec)) termGetsCard

/-- THE TIED CARD OF 'hanaperlaw05.TermSame'. -/
def termSameCard : Claim7 := { stood := { row := termSameRow, standIns := [], harness := (true, "24ba38dfccc9d0aeba40b5b62883594c0569c63ef2315ca722b8a1864dfae566"), looks := false }, kinds := [], alts := [], laidByText := true, laidKinds := [.data], laidTests := true, laidLooks := .later }
def TermSameCardSaid : Prop := Claim7.holds Tryd.pinned (.plain (OpenSpec.ofChange termSameSpec)) termSameCard

/-- THE TIED CARD OF 'hanaperlaw05.TermBack'. -/
def termBackCard : Claim7 := { stood := { row := termBackRow, standIns := [], harness := (true, "24ba38dfccc9d0aeba40b5b62883594c0569c63ef2315ca722b8a1864dfae566"), looks := false }, kinds := [], alts := [], laidByText := true, laidKinds := [.data], laidTests := true, laidLooks := .later }
def TermBackCardSaid : Prop := Claim7.holds Tryd.pinned (.plain (OpenSpec.ofChange termBackSpec)) termBackCard

/-- THE SECOND FORM's CARD OF 'hanaperlaw05.TermPuts'. -/
def termPutsUptoCard : Claim7 := { stood := { row := termPutsUptoRow, standIns := [], harness := (true, "24ba38dfccc9d0aeba40b5b62883594c0569c63ef2315ca722b8a1864dfae566"), looks := false }, kinds := [], alts := [], laidByText := true, laidKinds := [.data], laidTests := true, laidLooks := .later }
def TermPutsUptoCardSaid : Prop := Claim7.holds Tryd.pinned (.plain (OpenSpec.upto termPutsSpec)) termPutsUptoCard

/-- THE SECOND FORM's CARD OF 'hanaperlaw05.TermGets'. -/
def termGetsUptoCard : Claim7 := { stood := { row := termGetsUptoRow, standIns := [], harness := (true, "24ba38dfccc9d0aeba40b5b62883594c0569c63ef2315ca722b8a1864dfae566"), looks := false }, kinds := [], alts := [], laidByText := true, laidKinds := [.data], laidTests := true, laidLooks := .later }
def TermGetsUptoCardSaid : Prop := Claim7.holds Tryd.pinned (.plain (OpenSpec.upto termGetsSpec)) termGetsUptoCard

/-- THE SECOND FORM's CARD OF 'hanaperlaw05.TermSame'. -/
def termSameUptoCard : Claim7 := { stood := { row := termSameUptoRow, standIns := [], harness := (true, "24ba38dfccc9d0aeba40b5b62883594c0569c63ef2315ca722b8a1864dfae566"), looks := false }, kinds := [], alts := [], laidByText := true, laidKinds := [.data], laidTests := true, laidLooks := .later }
def TermSameUptoCardSaid : Prop := Claim7.holds Tryd.pinned (.plain (OpenSpec.upto termSameSpec)) termSameUptoCard

/-- THE SECOND FORM's CARD OF 'hanaperlaw05.TermBack'. -/
def termBackUptoCard : Claim7 := { stood := { row := termBackUptoRow, standIns := [], harness := (true, "24ba38dfccc9d0aeba40b5b62883594c0569c63ef2315ca722b8a1864dfae566"), looks := false }, kinds := [], alts := [], laidByText := true, laidKinds := [.data], laidTests := true, laidLooks := .later }
def TermBackUptoCardSaid : Prop := Claim7.holds Tryd.pinned (.plain (OpenSpec.upto termBackSpec)) termBackUptoCard
end Rows
end Go.Proofs.YtmepcdljobdigaaDoor
