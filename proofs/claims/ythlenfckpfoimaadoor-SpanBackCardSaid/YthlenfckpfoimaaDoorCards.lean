/-
  DERIVED. GIVEN WITH THE SEED: THE CARDS: each row of YthlenfckpfoimaaDoorRows.lean that lists a variable, with what it lists TIED to the program's text (the seventh form; the later family's looks); each row that meets fmt, with fmt's text TOLD by the authors' own Lean function (tested against real Go, not proved from fmt's source: count such statements apart). THE CARD IS WHAT COUNTS. Prove the row's statement (the work); the ties are given (YthlenfckpfoimaaDoorTie.lean); close each card by the builder's one call (the guide's Derived/Test/ToyasCard.lean, 'card_holds'). Laid BY PROGRAM, IN A SANDBOX (cutbox-door.mjs). By AI agents, Wed Nov 11 2026. No macro, syntax, notation, axiom, sorry.
-/
import Derived.Test.YthlenfckpfoimaaDoorRows
import GoSem.ClaimSeven
namespace Go.Proofs.YthlenfckpfoimaaDoor
namespace Rows

/-- THE TIED CARD OF 'hanaperlaw15.SpanDays'. -/
def spanDaysCard : Claim7 := { stood := { row := spanDaysRow, standIns := [], harness := (true, "14fda28a58fee1c925a9badfbaa2bd315f8eeff81e4b98f138c7def752f4b97f"), looks := false }, kinds := [], alts := [], laidByText := true, laidKinds := [.data, .data, .data], laidTests := true, laidLooks := .later }
def SpanDaysCardSaid : Prop := Claim7.holds Tryd.pinned (.plain (OpenSpec.ofChange spanDaysSpec)) spanDaysCard

/-- THE TIED CARD OF 'hanaperlaw15.SpanAfter'. -/
def spanAfterCard : Claim7 := { stood := { row := spanAfterRow, standIns := [], harness := (true, "14fda28a58fee1c925a9badfbaa2bd315f8eeff81e4b98f138c7def752f4b97f"), looks := false }, kinds := [], alts := [], laidByText := true, laidKinds := [.data, .data, .data], laidTests := true, laidLooks := .later }
def SpanAfterCardSaid : Prop := Claim7.holds Tryd.pinned (.plain (OpenSpec.ofChange spanAfterSpec)) spanAfterCard

/-- THE TIED CARD OF 'hanaperlaw15.SpanBack'. -/
def spanBackCard : Claim7 := { stood := { row := spanBackRow, standIns := [], harness := (true, "14fda28a58fee1c925a9badfbaa2bd315f8eeff81e4b98f138c7def752f4b97f"), looks := false }, kinds := [], alts := [], laidByText := true, laidKinds := [.data, .data, .data], laidTests := true, laidLooks := .later }
def SpanBackCardSaid : Prop := Claim7.holds Tryd.pinned (.plain (OpenSpec.ofChange spanBackSpec)) spanBackCard

/-- THE SECOND FORM's CARD OF 'hanaperlaw15.SpanDays'. -/
def spanDaysUptoCard : Claim7 := { stood := { row := spanDaysUptoRow, standIns := [], harness := (true, "14fda28a58fee1c925a9badfbaa2bd315f8eeff81e4b98f138c7def752f4b97f"), looks := false }, kinds := [], alts := [], laidByText := true, laidKinds := [.data, .data, .data], laidTests := true, laidLooks := .later }
def SpanDaysUptoCardSaid : Prop := Claim7.holds Tryd.pinned (.plain (OpenSpec.upto spanDaysSpec)) spanDaysUptoCard

/-- THE SECOND FORM's CARD OF 'hanaperlaw15.SpanAfter'. -/
def spanAfterUptoCard : Claim7 := { stood := { row := spanAfterUptoRow, standIns := [], harness := (true, "14fda28a58fee1c925a9badfbaa2bd315f8eeff81e4b98f138c7def752f4b97f"), looks := false }, kinds := [], alts := [], laidByText := true, laidKinds := [.data, .data, .data], laidTests := true, laidLooks := .later }
def SpanAfterUptoCardSaid : Prop := Claim7.holds Tryd.pinned (.plain (OpenSpec.upto spanAfterSpec)) spanAfterUptoCard

/-- THE SECOND FORM's CARD OF 'hanaperlaw15.SpanBack'. -/
def spanBackUptoCard : Claim7 := { stood := { row := spanBackUptoRow, standIns := [], harness := (true, "14fda28a58fee1c925a9badfbaa2bd315f8eeff81e4b98f138c7def752f4b97f"), looks := false }, kinds := [], alts := [], laidByText := true, laidKinds := [.data, .data, .data], laidTests := true, laidLooks := .later }
def SpanBackUptoCardSaid : Prop := Claim7.holds Tryd.pinned (.plain (OpenSpec.upto spanBackSpec)) spanBackUptoCard
end Rows
end Go.Proofs.YthlenfckpfoimaaDoor
