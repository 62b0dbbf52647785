/-
  DERIVED. GIVEN WITH THE SEED: THE CARDS: each row of YthgaljgelngmaaaDoorRows.lean that lists a variable, with what it lists TIED to the program's text (the seventh form; the later family's looks); each row that meets fmt, with fmt's text TOLD by the authors' own Lean function (tested against real Go, not proved from fmt's source: count such statements apart). THE CARD IS WHAT COUNTS. Prove the row's statement (the work); the ties are given (YthgaljgelngmaaaDoorTie.lean); close each card by the builder's one call (the guide's Derived/Test/ToyasCard.lean, 'card_holds'). Laid BY PROGRAM, IN A SANDBOX (cutbox-door.mjs). By AI agents, Wed Nov 11 2026. No macro, syntax, notation, axiom, sorry.
-/
import Derived.Test.YthgaljgelngmaaaDoorRows
import GoSem.ClaimSeven
namespace Go.Proofs.YthgaljgelngmaaaDoor
namespace Rows

/-- THE TIED CARD OF 'hanaperlaw06.DeriveCloses'. -/
def deriveClosesCard : Claim7 := { stood := { row := deriveClosesRow, standIns := [], harness := (true, "73e74b416f0b44e1014e30e3c1a039cc770516303bf4a9de166e0b15ee656162"), looks := false }, kinds := [], alts := [], laidByText := true, laidKinds := [.data], laidTests := true, laidLooks := .later }
def DeriveClosesCardSaid : Prop := Claim7.holds Tryd.pinned (.plain (OpenSpec.ofChange deriveClosesSpec)) deriveClosesCard

/-- THE TIED CARD OF 'hanaperlaw06.DeriveMore'. -/
def deriveMoreCard : Claim7 := { stood := { row := deriveMoreRow, standIns := [], harness := (true, "73e74b416f0b44e1014e30e3c1a039cc770516303bf4a9de166e0b15ee656162"), looks := false }, kinds := [], alts := [], laidByText := true, laidKinds := [.data], laidTests := true, laidLooks := .later }
def DeriveMoreCardSaid : Prop := Claim7.holds Tryd.pinned (.plain (OpenSpec.ofChange deriveMoreSpec)) deriveMoreCard

/-- THE TIED CARD OF 'hanaperlaw06.DeriveSecret'. -/
def deriveSecretCard : Claim7 := { stood := { row := deriveSecretRow, standIns := [], harness := (true, "73e74b416f0b44e1014e30e3c1a039cc770516303bf4a9de166e0b15ee656162"), looks := false }, kinds := [], alts := [], laidByText := true, laidKinds := [.data], laidTests := true, laidLooks := .later }
def DeriveSecretCardSaid : Prop := Claim7.holds Tryd.pinned (.plain (OpenSpec.ofChange deriveSecretSpec)) deriveSecretCard

/-- THE SECOND FORM's CARD OF 'hanaperlaw06.DeriveCloses'. -/
def deriveClosesUptoCard : Claim7 := { stood := { row := deriveClosesUptoRow, standIns := [], harness := (true, "73e74b416f0b44e1014e30e3c1a039cc770516303bf4a9de166e0b15ee656162"), looks := false }, kinds := [], alts := [], laidByText := true, laidKinds := [.data], laidTests := true, laidLooks := .later }
def DeriveClosesUptoCardSaid : Prop := Claim7.holds Tryd.pinned (.plain (OpenSpec.upto deriveClosesSpec)) deriveClosesUptoCard

/-- THE SECOND FORM's CARD OF 'hanaperlaw06.DeriveMore'. -/
def deriveMoreUptoCard : Claim7 := { stood := { row := deriveMoreUptoRow, standIns := [], harness := (true, "73e74b416f0b44e1014e30e3c1a039cc770516303bf4a9de166e0b15ee656162"), looks := false }, kinds := [], alts := [], laidByText := true, laidKinds := [.data], laidTests := true, laidLooks := .later }
def DeriveMoreUptoCardSaid : Prop := Claim7.holds Tryd.pinned (.plain (OpenSpec.upto deriveMoreSpec)) deriveMoreUptoCard

/-- THE SECOND FORM's CARD OF 'hanaperlaw06.DeriveSecret'. -/
def deriveSecretUptoCard : Claim7 := { stood := { row := deriveSecretUptoRow, standIns := [], harness := (true, "73e74b416f0b44e1014e30e3c1a039cc770516303bf4a9de166e0b15ee656162"), looks := false }, kinds := [], alts := [], laidByText := true, laidKinds := [.data], laidTests := true, laidLooks := .later }
def DeriveSecretUptoCardSaid : Prop := Claim7.holds Tryd.pinned (.plain (OpenSpec.upto deriveSecretSpec)) deriveSecretUptoCard
end Rows
end Go.Proofs.YthgaljgelngmaaaDoor
