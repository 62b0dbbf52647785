/-
  Numbers told in digits: the document's Number of at most seven digits (layer 15), over the loaded program: its contract. No condition.
-/
import Derived.Test.YtbhebjkicooidaaDoorSpB
namespace Go.Proofs.YtbhebjkicooidaaDoor
open Go.RowKit
set_option maxRecDepth 100000
set_option linter.unusedVariables false

/-- A number, or -1. -/
def numI : Option Nat → Int
  | none => -1
  | some n => (n : Int)

end Go.Proofs.YtbhebjkicooidaaDoor
