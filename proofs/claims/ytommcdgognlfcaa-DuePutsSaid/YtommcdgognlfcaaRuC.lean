/-
  The document's left, MayExpr, small (layer 17), over the loaded program: each one's contract. No condition but the sizes that each contract names.
-/
import Derived.Test.YtommcdgognlfcaaRuA
import Derived.Test.YtommcdgognlfcaaRuB
import Derived.Test.YtommcdgognlfcaaRuV
import Derived.WalkSpells
import Derived.BigQuiet
import Derived.Deep.QuietTactic
namespace Go.Proofs.Ytommcdgognlfcaa
open Go.RowKit
set_option maxRecDepth 100000
set_option linter.unusedVariables false
end Go.Proofs.Ytommcdgognlfcaa
