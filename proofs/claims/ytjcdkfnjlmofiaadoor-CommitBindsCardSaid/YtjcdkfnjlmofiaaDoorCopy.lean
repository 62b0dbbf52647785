/-
  The document's Copy (layer 1), over the loaded program: its contract. No condition but the sizes that it names.
-/
import Derived.Test.YtjcdkfnjlmofiaaDoorBase
import Derived.WalkSpells
import Derived.BigQuiet
import Derived.Deep.QuietTactic
namespace Go.Proofs.YtjcdkfnjlmofiaaDoor
open Go.RowKit
set_option linter.unusedVariables false
end Go.Proofs.YtjcdkfnjlmofiaaDoor
