/-
  No cell of these rows narrows 'for every input' (looked for: loops, veiled, ifaces, maps, wideKeys, modest, calm, conditions, laid).
  DERIVED. THE GIVEN ROWS OF THIS SEAT. 4 by the template 'for every input the law returns true; each argument reads behind the call as it read before'; 0 by the template 'total and deterministic' (their statements: YtelcfchnaglpcaaTotals.lean).
  GIVEN WITH THE SEED: the statements are not yours to turn. If you find one false, say at which input.
  Laid BY PROGRAM, IN A SANDBOX (cutbox-rows.mjs): the forced cells as the released guide's own fill.sh prints them over the translation 696a15757bc45ed3… (all of the seat's roots in one cut). By AI agents, Wed Nov 11 2026. No macro, syntax, notation, axiom, sorry.
-/
import Derived.Test.YtelcfchnaglpcaaChecked
import GoSem.Claim
import GoSem.ClaimJoined
import GoSem.ClaimMapViews
import Derived.JoinedTies
import Derived.KernelRfl
namespace Go.Proofs.Ytelcfchnaglpcaa
/- THE CELL 'sum', in the pinned program and in every row, IS THE sha256 OF THE DUMP (.gsa) THAT YtelcfchnaglpcaaProg.lean LOADS. Nothing in Lean hashes anything: it is a label: what it is worth is what the hold of that sum in a sandbox is worth. -/
noncomputable def Try.pinned : Pinned := { name := "ytelcfchnaglpcaa", sum := "696a15757bc45ed3d25c9052de2bb358bbff6f6d591b982b0ce3428057543881", checked := Try.checked }
namespace Rows
def none {H : Type} : Left H := { results := [], args := [] }

/-- 'hanaperlaw11.AllocPicks': WHATEVER THE INPUT: true; the input reads as it did. -/
def allocPicksSpec : ChangeSpec := { name := "allocPicks", fn := fun _ => fun
  | [d1, d2] => { results := [.lit (.bool true)], args := [d1, d2] }
  | _ => none }
def allocPicksRow : OpenClaim := { program := "ytelcfchnaglpcaa", sum := "696a15757bc45ed3d25c9052de2bb358bbff6f6d591b982b0ce3428057543881", func := "hanaper/hanaperlaw11.AllocPicks", spec := "allocPicks", apart := false }
def AllocPicksSaid : Prop := allocPicksRow.holds Try.pinned (OpenSpec.ofChange allocPicksSpec)

/-- ITS FALSE NEIGHBOUR: 'it returns false'. Refute it at one input. -/
def allocPicksWrong : ChangeSpec := { name := "allocPicks", fn := fun _ => fun
  | [d1, d2] => { results := [.lit (.bool false)], args := [d1, d2] }
  | _ => none }
def AllocPicksWrongFalsely : Prop := allocPicksRow.holds Try.pinned (OpenSpec.ofChange allocPicksWrong)

/-- 'hanaperlaw11.AllocBits': WHATEVER THE INPUT: true; the input reads as it did. -/
def allocBitsSpec : ChangeSpec := { name := "allocBits", fn := fun _ => fun
  | [d1, d2, d3] => { results := [.lit (.bool true)], args := [d1, d2, d3] }
  | _ => none }
def allocBitsRow : OpenClaim := { program := "ytelcfchnaglpcaa", sum := "696a15757bc45ed3d25c9052de2bb358bbff6f6d591b982b0ce3428057543881", func := "hanaper/hanaperlaw11.AllocBits", spec := "allocBits", apart := false }
def AllocBitsSaid : Prop := allocBitsRow.holds Try.pinned (OpenSpec.ofChange allocBitsSpec)

/-- ITS FALSE NEIGHBOUR: 'it returns false'. Refute it at one input. -/
def allocBitsWrong : ChangeSpec := { name := "allocBits", fn := fun _ => fun
  | [d1, d2, d3] => { results := [.lit (.bool false)], args := [d1, d2, d3] }
  | _ => none }
def AllocBitsWrongFalsely : Prop := allocBitsRow.holds Try.pinned (OpenSpec.ofChange allocBitsWrong)

/-- 'hanaperlaw11.AllocCuts': WHATEVER THE INPUT: true; the input reads as it did. -/
def allocCutsSpec : ChangeSpec := { name := "allocCuts", fn := fun _ => fun
  | [d1, d2] => { results := [.lit (.bool true)], args := [d1, d2] }
  | _ => none }
def allocCutsRow : OpenClaim := { program := "ytelcfchnaglpcaa", sum := "696a15757bc45ed3d25c9052de2bb358bbff6f6d591b982b0ce3428057543881", func := "hanaper/hanaperlaw11.AllocCuts", spec := "allocCuts", apart := false }
def AllocCutsSaid : Prop := allocCutsRow.holds Try.pinned (OpenSpec.ofChange allocCutsSpec)

/-- ITS FALSE NEIGHBOUR: 'it returns false'. Refute it at one input. -/
def allocCutsWrong : ChangeSpec := { name := "allocCuts", fn := fun _ => fun
  | [d1, d2] => { results := [.lit (.bool false)], args := [d1, d2] }
  | _ => none }
def AllocCutsWrongFalsely : Prop := allocCutsRow.holds Try.pinned (OpenSpec.ofChange allocCutsWrong)

/-- 'hanaperlaw11.AllocBack': WHATEVER THE INPUT: true; the input reads as it did. -/
def allocBackSpec : ChangeSpec := { name := "allocBack", fn := fun _ => fun
  | [d1, d2, d3] => { results := [.lit (.bool true)], args := [d1, d2, d3] }
  | _ => none }
def allocBackRow : OpenClaim := { program := "ytelcfchnaglpcaa", sum := "696a15757bc45ed3d25c9052de2bb358bbff6f6d591b982b0ce3428057543881", func := "hanaper/hanaperlaw11.AllocBack", spec := "allocBack", apart := false }
def AllocBackSaid : Prop := allocBackRow.holds Try.pinned (OpenSpec.ofChange allocBackSpec)

/-- ITS FALSE NEIGHBOUR: 'it returns false'. Refute it at one input. -/
def allocBackWrong : ChangeSpec := { name := "allocBack", fn := fun _ => fun
  | [d1, d2, d3] => { results := [.lit (.bool false)], args := [d1, d2, d3] }
  | _ => none }
def AllocBackWrongFalsely : Prop := allocBackRow.holds Try.pinned (OpenSpec.ofChange allocBackWrong)

/- THE SECOND FORM. 'bulk': how many values and letters a reading holds, each counted each time it is reached (what is shared counts as often as it is met; a slice's spare places count too). A statement '..UptoSaid' is the law's where the arguments, and the package variables that the reading takes, are together of bulk at most 1048576: NARROWER than '..Said'. Prove '..Said' where nothing that the law and all that it calls make is longer than what came in: it says more and counts as full. Else prove '..UptoSaid'. A law counts once. -/
mutual
def uptoBulk {H : Type} : DataW H → Nat
  | .lit (.string bytes) => bytes.length + 1
  | .lit _ => 1
  | .nil => 1
  | .ptr d => uptoBulk d + 1
  | .slice elems spare => uptoBulkAll elems + uptoBulkAll spare + 1
  | .agg parts => uptoBulkAll parts + 1
  | .iface _ d => uptoBulk d + 1
  | .map entries => uptoBulkEntries entries + 1
  | .held _ => 1
def uptoBulkAll {H : Type} : List (DataW H) → Nat
  | [] => 0
  | d :: r => uptoBulk d + uptoBulkAll r
def uptoBulkEntries {H : Type} : List (Lit × DataW H) → Nat
  | [] => 0
  | x :: r => uptoBulkEntry x + uptoBulkEntries r
def uptoBulkEntry {H : Type} : Lit × DataW H → Nat
  | (.string bytes, d) => bytes.length + uptoBulk d + 1
  | (_, d) => uptoBulk d + 1
 end
def uptoSmall : (H : Type) → List (DataW H) → Bool := fun _ ds => decide (uptoBulkAll ds ≤ 1048576)
def OpenSpec.upto (s : _root_.Go.ChangeSpec) : _root_.Go.OpenSpec := { _root_.Go.OpenSpec.ofChange s with cond := some uptoSmall }

/-- 'hanaperlaw11.AllocPicks', WHERE WHAT IT READS IS OF BULK AT MOST 1048576: true; the input reads as it did. -/
def allocPicksUptoRow : OpenClaim := { program := "ytelcfchnaglpcaa", sum := "696a15757bc45ed3d25c9052de2bb358bbff6f6d591b982b0ce3428057543881", func := "hanaper/hanaperlaw11.AllocPicks", spec := "allocPicks", apart := false, narrowed := true }
def AllocPicksUptoSaid : Prop := allocPicksUptoRow.holds Try.pinned (OpenSpec.upto allocPicksSpec)

/-- 'hanaperlaw11.AllocBits', WHERE WHAT IT READS IS OF BULK AT MOST 1048576: true; the input reads as it did. -/
def allocBitsUptoRow : OpenClaim := { program := "ytelcfchnaglpcaa", sum := "696a15757bc45ed3d25c9052de2bb358bbff6f6d591b982b0ce3428057543881", func := "hanaper/hanaperlaw11.AllocBits", spec := "allocBits", apart := false, narrowed := true }
def AllocBitsUptoSaid : Prop := allocBitsUptoRow.holds Try.pinned (OpenSpec.upto allocBitsSpec)

/-- 'hanaperlaw11.AllocCuts', WHERE WHAT IT READS IS OF BULK AT MOST 1048576: true; the input reads as it did. -/
def allocCutsUptoRow : OpenClaim := { program := "ytelcfchnaglpcaa", sum := "696a15757bc45ed3d25c9052de2bb358bbff6f6d591b982b0ce3428057543881", func := "hanaper/hanaperlaw11.AllocCuts", spec := "allocCuts", apart := false, narrowed := true }
def AllocCutsUptoSaid : Prop := allocCutsUptoRow.holds Try.pinned (OpenSpec.upto allocCutsSpec)

/-- 'hanaperlaw11.AllocBack', WHERE WHAT IT READS IS OF BULK AT MOST 1048576: true; the input reads as it did. -/
def allocBackUptoRow : OpenClaim := { program := "ytelcfchnaglpcaa", sum := "696a15757bc45ed3d25c9052de2bb358bbff6f6d591b982b0ce3428057543881", func := "hanaper/hanaperlaw11.AllocBack", spec := "allocBack", apart := false, narrowed := true }
def AllocBackUptoSaid : Prop := allocBackUptoRow.holds Try.pinned (OpenSpec.upto allocBackSpec)

end Rows
end Go.Proofs.Ytelcfchnaglpcaa
