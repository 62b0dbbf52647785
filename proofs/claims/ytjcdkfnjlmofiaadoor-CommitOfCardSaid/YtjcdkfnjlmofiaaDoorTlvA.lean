/-
  The reader of tlv, its small methods: each one's contract over the loaded program (Ok, Left, fail, pass, clone, Take, New).
  No condition but the worlds' shapes that each contract names.
-/
import Derived.Test.YtjcdkfnjlmofiaaDoorProg
import Derived.Test.YtjcdkfnjlmofiaaDoorMem
import Derived.Test.YtjcdkfnjlmofiaaDoorBase
import Derived.Test.YtjcdkfnjlmofiaaDoorTlvM
import Derived.WalkKit
import Derived.WalkSpells
import Derived.BigQuiet
import Derived.Deep.QuietTactic
namespace Go.Proofs.YtjcdkfnjlmofiaaDoor
open Go.RowKit
end Go.Proofs.YtjcdkfnjlmofiaaDoor
