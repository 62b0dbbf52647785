/-
  No cell of these rows narrows 'for every input' (looked for: loops, veiled, ifaces, maps, wideKeys, modest, calm, conditions, laid).
  DERIVED. THE GIVEN ROWS OF THIS SEAT. 4 by the template 'for every input the law returns true; each argument reads behind the call as it read before'; 0 by the template 'total and deterministic' (their statements: YtfhkkmhidccdmaaTotals.lean).
  GIVEN WITH THE SEED: the statements are not yours to turn. If you find one false, say at which input.
  Laid BY PROGRAM, IN A SANDBOX (cutbox-rows.mjs): the forced cells as the released guide's own fill.sh prints them over the translation fd29a7de84318a36… (all of the seat's roots in one cut). By AI agents, Wed Nov 11 2026. No macro, syntax, notation, axiom, sorry.
-/
import Derived.Test.YtfhkkmhidccdmaaChecked
import GoSem.Claim
import GoSem.ClaimJoined
import GoSem.ClaimMapViews
import Derived.JoinedTies
import Derived.KernelRfl
namespace Go.Proofs.Ytfhkkmhidccdmaa
/- THE CELL 'sum', in the pinned program and in every row, IS THE sha256 OF THE DUMP (.gsa) THAT YtfhkkmhidccdmaaProg.lean LOADS. Nothing in Lean hashes anything: it is a label: what it is worth is what the hold of that sum in a sandbox is worth. -/
noncomputable def Try.pinned : Pinned := { name := "ytfhkkmhidccdmaa", sum := "fd29a7de84318a36aa492b1190549a47dbc2406b72ddb15c7cd6699c07c06820", checked := Try.checked }
namespace Rows
def none {H : Type} : Left H := { results := [], args := [] }

/-- 'hanaperlaw09.SectPuts': WHATEVER THE INPUT: true; the input reads as it did. -/
def sectPutsSpec : ChangeSpec := { name := "sectPuts", fn := fun _ => fun
  | [d1, d2, d3] => { results := [.lit (.bool true)], args := [d1, d2, d3] }
  | _ => none }
def sectPutsRow : OpenClaim := { program := "ytfhkkmhidccdmaa", sum := "fd29a7de84318a36aa492b1190549a47dbc2406b72ddb15c7cd6699c07c06820", func := "hanaper/hanaperlaw09.SectPuts", spec := "sectPuts", apart := false }
def SectPutsSaid : Prop := sectPutsRow.holds Try.pinned (OpenSpec.ofChange sectPutsSpec)

/-- ITS FALSE NEIGHBOUR: 'it returns false'. Refute it at one input. -/
def sectPutsWrong : ChangeSpec := { name := "sectPuts", fn := fun _ => fun
  | [d1, d2, d3] => { results := [.lit (.bool false)], args := [d1, d2, d3] }
  | _ => none }
def SectPutsWrongFalsely : Prop := sectPutsRow.holds Try.pinned (OpenSpec.ofChange sectPutsWrong)

/-- 'hanaperlaw09.SectGets': WHATEVER THE INPUT: true; the input reads as it did. -/
def sectGetsSpec : ChangeSpec := { name := "sectGets", fn := fun _ => fun
  | [d] => { results := [.lit (.bool true)], args := [d] }
  | _ => none }
def sectGetsRow : OpenClaim := { program := "ytfhkkmhidccdmaa", sum := "fd29a7de84318a36aa492b1190549a47dbc2406b72ddb15c7cd6699c07c06820", func := "hanaper/hanaperlaw09.SectGets", spec := "sectGets", apart := false }
def SectGetsSaid : Prop := sectGetsRow.holds Try.pinned (OpenSpec.ofChange sectGetsSpec)

/-- ITS FALSE NEIGHBOUR: 'it returns false'. Refute it at one input. -/
def sectGetsWrong : ChangeSpec := { name := "sectGets", fn := fun _ => fun
  | [d] => { results := [.lit (.bool false)], args := [d] }
  | _ => none }
def SectGetsWrongFalsely : Prop := sectGetsRow.holds Try.pinned (OpenSpec.ofChange sectGetsWrong)

/-- 'hanaperlaw09.SectBack': WHATEVER THE INPUT: true; the input reads as it did. -/
def sectBackSpec : ChangeSpec := { name := "sectBack", fn := fun _ => fun
  | [d1, d2, d3] => { results := [.lit (.bool true)], args := [d1, d2, d3] }
  | _ => none }
def sectBackRow : OpenClaim := { program := "ytfhkkmhidccdmaa", sum := "fd29a7de84318a36aa492b1190549a47dbc2406b72ddb15c7cd6699c07c06820", func := "hanaper/hanaperlaw09.SectBack", spec := "sectBack", apart := false }
def SectBackSaid : Prop := sectBackRow.holds Try.pinned (OpenSpec.ofChange sectBackSpec)

/-- ITS FALSE NEIGHBOUR: 'it returns false'. Refute it at one input. -/
def sectBackWrong : ChangeSpec := { name := "sectBack", fn := fun _ => fun
  | [d1, d2, d3] => { results := [.lit (.bool false)], args := [d1, d2, d3] }
  | _ => none }
def SectBackWrongFalsely : Prop := sectBackRow.holds Try.pinned (OpenSpec.ofChange sectBackWrong)

/-- 'hanaperlaw09.SectTells': WHATEVER THE INPUT: true; the input reads as it did. -/
def sectTellsSpec : ChangeSpec := { name := "sectTells", fn := fun _ => fun
  | [d1, d2, d3] => { results := [.lit (.bool true)], args := [d1, d2, d3] }
  | _ => none }
def sectTellsRow : OpenClaim := { program := "ytfhkkmhidccdmaa", sum := "fd29a7de84318a36aa492b1190549a47dbc2406b72ddb15c7cd6699c07c06820", func := "hanaper/hanaperlaw09.SectTells", spec := "sectTells", apart := false }
def SectTellsSaid : Prop := sectTellsRow.holds Try.pinned (OpenSpec.ofChange sectTellsSpec)

/-- ITS FALSE NEIGHBOUR: 'it returns false'. Refute it at one input. -/
def sectTellsWrong : ChangeSpec := { name := "sectTells", fn := fun _ => fun
  | [d1, d2, d3] => { results := [.lit (.bool false)], args := [d1, d2, d3] }
  | _ => none }
def SectTellsWrongFalsely : Prop := sectTellsRow.holds Try.pinned (OpenSpec.ofChange sectTellsWrong)

/- THE SECOND FORM. 'bulk': how many values and letters a reading holds, each counted each time it is reached (what is shared counts as often as it is met; a slice's spare places count too). A statement '..UptoSaid' is the law's where the arguments, and the package variables that the reading takes, are together of bulk at most 1048576: NARROWER than '..Said'. Prove '..Said' where nothing that the law and all that it calls make is longer than what came in: it says more and counts as full. Else prove '..UptoSaid'. A law counts once. -/
mutual
def uptoBulk {H : Type} : DataW H → Nat
  | .lit (.string bytes) => bytes.length + 1
  | .lit _ => 1
  | .nil => 1
  | .ptr d => uptoBulk d + 1
  | .slice elems spare => uptoBulkAll elems + uptoBulkAll spare + 1
  | .agg parts => uptoBulkAll parts + 1
  | .iface _ d => uptoBulk d + 1
  | .map entries => uptoBulkEntries entries + 1
  | .held _ => 1
def uptoBulkAll {H : Type} : List (DataW H) → Nat
  | [] => 0
  | d :: r => uptoBulk d + uptoBulkAll r
def uptoBulkEntries {H : Type} : List (Lit × DataW H) → Nat
  | [] => 0
  | x :: r => uptoBulkEntry x + uptoBulkEntries r
def uptoBulkEntry {H : Type} : Lit × DataW H → Nat
  | (.string bytes, d) => bytes.length + uptoBulk d + 1
  | (_, d) => uptoBulk d + 1
 end
def uptoSmall : (H : Type) → List (DataW H) → Bool := fun _ ds => decide (uptoBulkAll ds ≤ 1048576)
def OpenSpec.upto (s : _root_.Go.ChangeSpec) : _root_.Go.OpenSpec := { _root_.Go.OpenSpec.ofChange s with cond := some uptoSmall }

/-- 'hanaperlaw09.SectPuts', WHERE WHAT IT READS IS OF BULK AT MOST 1048576: true; the input reads as it did. -/
def sectPutsUptoRow : OpenClaim := { program := "ytfhkkmhidccdmaa", sum := "fd29a7de84318a36aa492b1190549a47dbc2406b72ddb15c7cd6699c07c06820", func := "hanaper/hanaperlaw09.SectPuts", spec := "sectPuts", apart := false, narrowed := true }
def SectPutsUptoSaid : Prop := sectPutsUptoRow.holds Try.pinned (OpenSpec.upto sectPutsSpec)

/-- 'hanaperlaw09.SectGets', WHERE WHAT IT READS IS OF BULK AT MOST 1048576: true; the input reads as it did. -/
def sectGetsUptoRow : OpenClaim := { program := "ytfhkkmhidccdmaa", sum := "fd29a7de84318a36aa492b1190549a47dbc2406b72ddb15c7cd6699c07c06820", func := "hanaper/hanaperlaw09.SectGets", spec := "sectGets", apart := false, narrowed := true }
def SectGetsUptoSaid : Prop := sectGetsUptoRow.holds Try.pinned (OpenSpec.upto sectGetsSpec)

/-- 'hanaperlaw09.SectBack', WHERE WHAT IT READS IS OF BULK AT MOST 1048576: true; the input reads as it did. -/
def sectBackUptoRow : OpenClaim := { program := "ytfhkkmhidccdmaa", sum := "fd29a7de84318a36aa492b1190549a47dbc2406b72ddb15c7cd6699c07c06820", func := "hanaper/hanaperlaw09.SectBack", spec := "sectBack", apart := false, narrowed := true }
def SectBackUptoSaid : Prop := sectBackUptoRow.holds Try.pinned (OpenSpec.upto sectBackSpec)

/-- 'hanaperlaw09.SectTells', WHERE WHAT IT READS IS OF BULK AT MOST 1048576: true; the input reads as it did. -/
def sectTellsUptoRow : OpenClaim := { program := "ytfhkkmhidccdmaa", sum := "fd29a7de84318a36aa492b1190549a47dbc2406b72ddb15c7cd6699c07c06820", func := "hanaper/hanaperlaw09.SectTells", spec := "sectTells", apart := false, narrowed := true }
def SectTellsUptoSaid : Prop := sectTellsUptoRow.holds Try.pinned (OpenSpec.upto sectTellsSpec)

end Rows
end Go.Proofs.Ytfhkkmhidccdmaa
