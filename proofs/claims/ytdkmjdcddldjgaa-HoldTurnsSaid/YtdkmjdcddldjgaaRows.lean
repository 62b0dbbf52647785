/-
  NARROWER THAN 'FOR EVERY INPUT', by the rows' own cells (each row's printed sentence says how): HoldTurns: loops · HoldOn: loops · HoldFrees: loops.
  DERIVED. THE GIVEN ROWS OF THIS SEAT. 3 by the template 'for every input the law returns true; each argument reads behind the call as it read before'; 0 by the template 'total and deterministic' (their statements: YtdkmjdcddldjgaaTotals.lean).
  GIVEN WITH THE SEED: the statements are not yours to turn. If you find one false, say at which input.
  Laid BY PROGRAM, IN A SANDBOX (cutbox-rows.mjs): the forced cells as the released guide's own fill.sh prints them over the translation 00e70e85cb664727… (all of the seat's roots in one cut). By AI agents, Wed Nov 11 2026. No macro, syntax, notation, axiom, sorry.
-/
import Derived.Test.YtdkmjdcddldjgaaChecked
import GoSem.Claim
import GoSem.ClaimJoined
import GoSem.ClaimMapViews
import Derived.JoinedTies
import Derived.KernelRfl
namespace Go.Proofs.Ytdkmjdcddldjgaa
/- THE CELL 'sum', in the pinned program and in every row, IS THE sha256 OF THE DUMP (.gsa) THAT YtdkmjdcddldjgaaProg.lean LOADS. Nothing in Lean hashes anything: it is a label: what it is worth is what the hold of that sum in a sandbox is worth. -/
noncomputable def Try.pinned : Pinned := { name := "ytdkmjdcddldjgaa", sum := "00e70e85cb6647270ebe52ad5a31b18f5eb8dd036dfd61cec265a460c9b603bb", checked := Try.checked }
namespace Rows
def none {H : Type} : Left H := { results := [], args := [] }

/-- 'hanaperlaw22.HoldTurns': WHATEVER THE INPUT: true; the input reads as it did. -/
def holdTurnsSpec : ChangeSpec := { name := "holdTurns", fn := fun _ => fun
  | [d1, d2, d3] => { results := [.lit (.bool true)], args := [d1, d2, d3] }
  | _ => none }
def holdTurnsRow : OpenClaim := { program := "ytdkmjdcddldjgaa", sum := "00e70e85cb6647270ebe52ad5a31b18f5eb8dd036dfd61cec265a460c9b603bb", func := "hanaper/hanaperlaw22.HoldTurns", spec := "holdTurns", inPlace := ["internal/bytealg.IndexByteString", "internal/bytealg.IndexString"], unfollowed := true, recurses := true, named := ["internal/bytealg.MaxLen"], loops := true, apart := false }
def HoldTurnsSaid : Prop := holdTurnsRow.holds Try.pinned (OpenSpec.ofChange holdTurnsSpec)

/-- ITS FALSE NEIGHBOUR: 'it returns false'. Refute it at one input. -/
def holdTurnsWrong : ChangeSpec := { name := "holdTurns", fn := fun _ => fun
  | [d1, d2, d3] => { results := [.lit (.bool false)], args := [d1, d2, d3] }
  | _ => none }
def HoldTurnsWrongFalsely : Prop := holdTurnsRow.holds Try.pinned (OpenSpec.ofChange holdTurnsWrong)

/-- 'hanaperlaw22.HoldOn': WHATEVER THE INPUT: true; the input reads as it did. -/
def holdOnSpec : ChangeSpec := { name := "holdOn", fn := fun _ => fun
  | [d1, d2, d3] => { results := [.lit (.bool true)], args := [d1, d2, d3] }
  | _ => none }
def holdOnRow : OpenClaim := { program := "ytdkmjdcddldjgaa", sum := "00e70e85cb6647270ebe52ad5a31b18f5eb8dd036dfd61cec265a460c9b603bb", func := "hanaper/hanaperlaw22.HoldOn", spec := "holdOn", inPlace := ["internal/bytealg.IndexByteString", "internal/bytealg.IndexString"], unfollowed := true, recurses := true, named := ["internal/bytealg.MaxLen"], loops := true, apart := false }
def HoldOnSaid : Prop := holdOnRow.holds Try.pinned (OpenSpec.ofChange holdOnSpec)

/-- ITS FALSE NEIGHBOUR: 'it returns false'. Refute it at one input. -/
def holdOnWrong : ChangeSpec := { name := "holdOn", fn := fun _ => fun
  | [d1, d2, d3] => { results := [.lit (.bool false)], args := [d1, d2, d3] }
  | _ => none }
def HoldOnWrongFalsely : Prop := holdOnRow.holds Try.pinned (OpenSpec.ofChange holdOnWrong)

/-- 'hanaperlaw22.HoldFrees': WHATEVER THE INPUT: true; the input reads as it did. -/
def holdFreesSpec : ChangeSpec := { name := "holdFrees", fn := fun _ => fun
  | [d1, d2, d3] => { results := [.lit (.bool true)], args := [d1, d2, d3] }
  | _ => none }
def holdFreesRow : OpenClaim := { program := "ytdkmjdcddldjgaa", sum := "00e70e85cb6647270ebe52ad5a31b18f5eb8dd036dfd61cec265a460c9b603bb", func := "hanaper/hanaperlaw22.HoldFrees", spec := "holdFrees", inPlace := ["internal/bytealg.IndexByteString", "internal/bytealg.IndexString"], unfollowed := true, recurses := true, named := ["internal/bytealg.MaxLen"], loops := true, apart := false }
def HoldFreesSaid : Prop := holdFreesRow.holds Try.pinned (OpenSpec.ofChange holdFreesSpec)

/-- ITS FALSE NEIGHBOUR: 'it returns false'. Refute it at one input. -/
def holdFreesWrong : ChangeSpec := { name := "holdFrees", fn := fun _ => fun
  | [d1, d2, d3] => { results := [.lit (.bool false)], args := [d1, d2, d3] }
  | _ => none }
def HoldFreesWrongFalsely : Prop := holdFreesRow.holds Try.pinned (OpenSpec.ofChange holdFreesWrong)

/- THE SECOND FORM. 'bulk': how many values and letters a reading holds, each counted each time it is reached (what is shared counts as often as it is met; a slice's spare places count too). A statement '..UptoSaid' is the law's where the arguments, and the package variables that the reading takes, are together of bulk at most 1048576: NARROWER than '..Said'. Prove '..Said' where nothing that the law and all that it calls make is longer than what came in: it says more and counts as full. Else prove '..UptoSaid'. A law counts once. -/
mutual
def uptoBulk {H : Type} : DataW H → Nat
  | .lit (.string bytes) => bytes.length + 1
  | .lit _ => 1
  | .nil => 1
  | .ptr d => uptoBulk d + 1
  | .slice elems spare => uptoBulkAll elems + uptoBulkAll spare + 1
  | .agg parts => uptoBulkAll parts + 1
  | .iface _ d => uptoBulk d + 1
  | .map entries => uptoBulkEntries entries + 1
  | .held _ => 1
def uptoBulkAll {H : Type} : List (DataW H) → Nat
  | [] => 0
  | d :: r => uptoBulk d + uptoBulkAll r
def uptoBulkEntries {H : Type} : List (Lit × DataW H) → Nat
  | [] => 0
  | x :: r => uptoBulkEntry x + uptoBulkEntries r
def uptoBulkEntry {H : Type} : Lit × DataW H → Nat
  | (.string bytes, d) => bytes.length + uptoBulk d + 1
  | (_, d) => uptoBulk d + 1
 end
def uptoSmall : (H : Type) → List (DataW H) → Bool := fun _ ds => decide (uptoBulkAll ds ≤ 1048576)
def OpenSpec.upto (s : _root_.Go.ChangeSpec) : _root_.Go.OpenSpec := { _root_.Go.OpenSpec.ofChange s with cond := some uptoSmall }

/-- 'hanaperlaw22.HoldTurns', WHERE WHAT IT READS IS OF BULK AT MOST 1048576: true; the input reads as it did. -/
def holdTurnsUptoRow : OpenClaim := { program := "ytdkmjdcddldjgaa", sum := "00e70e85cb6647270ebe52ad5a31b18f5eb8dd036dfd61cec265a460c9b603bb", func := "hanaper/hanaperlaw22.HoldTurns", spec := "holdTurns", inPlace := ["internal/bytealg.IndexByteString", "internal/bytealg.IndexString"], unfollowed := true, recurses := true, named := ["internal/bytealg.MaxLen"], loops := true, apart := false, narrowed := true }
def HoldTurnsUptoSaid : Prop := holdTurnsUptoRow.holds Try.pinned (OpenSpec.upto holdTurnsSpec)

/-- 'hanaperlaw22.HoldOn', WHERE WHAT IT READS IS OF BULK AT MOST 1048576: true; the input reads as it did. -/
def holdOnUptoRow : OpenClaim := { program := "ytdkmjdcddldjgaa", sum := "00e70e85cb6647270ebe52ad5a31b18f5eb8dd036dfd61cec265a460c9b603bb", func := "hanaper/hanaperlaw22.HoldOn", spec := "holdOn", inPlace := ["internal/bytealg.IndexByteString", "internal/bytealg.IndexString"], unfollowed := true, recurses := true, named := ["internal/bytealg.MaxLen"], loops := true, apart := false, narrowed := true }
def HoldOnUptoSaid : Prop := holdOnUptoRow.holds Try.pinned (OpenSpec.upto holdOnSpec)

/-- 'hanaperlaw22.HoldFrees', WHERE WHAT IT READS IS OF BULK AT MOST 1048576: true; the input reads as it did. -/
def holdFreesUptoRow : OpenClaim := { program := "ytdkmjdcddldjgaa", sum := "00e70e85cb6647270ebe52ad5a31b18f5eb8dd036dfd61cec265a460c9b603bb", func := "hanaper/hanaperlaw22.HoldFrees", spec := "holdFrees", inPlace := ["internal/bytealg.IndexByteString", "internal/bytealg.IndexString"], unfollowed := true, recurses := true, named := ["internal/bytealg.MaxLen"], loops := true, apart := false, narrowed := true }
def HoldFreesUptoSaid : Prop := holdFreesUptoRow.holds Try.pinned (OpenSpec.upto holdFreesSpec)

end Rows
end Go.Proofs.Ytdkmjdcddldjgaa
