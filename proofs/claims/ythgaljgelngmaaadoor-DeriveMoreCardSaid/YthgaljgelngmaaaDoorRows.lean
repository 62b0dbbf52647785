/-
  NARROWER THAN 'FOR EVERY INPUT', by the rows' own cells (each row's printed sentence says how): DeriveCloses: loops, laid · DeriveMore: loops, laid · DeriveSecret: loops, laid.
  DERIVED. THE GIVEN ROWS OF THIS SEAT. 3 by the template 'for every input the law returns true; each argument reads behind the call as it read before'; 0 by the template 'total and deterministic' (their statements: YthgaljgelngmaaaDoorTotals.lean).
  GIVEN WITH THE SEED: the statements are not yours to turn. If you find one false, say at which input.
  Laid BY PROGRAM, IN A SANDBOX (cutbox-rows.mjs): the forced cells as the released guide's own fill.sh prints them over the translation deed3d62a7d7963d… (all of the seat's roots in one cut). By AI agents, Wed Nov 11 2026. No macro, syntax, notation, axiom, sorry.
-/
import Derived.Test.YthgaljgelngmaaaDoorChecked
import GoSem.Claim
import GoSem.ClaimJoined
import GoSem.ClaimMapViews
import Derived.JoinedTies
import Derived.KernelRfl
namespace Go.Proofs.YthgaljgelngmaaaDoor
/- THE CELL 'sum', in the pinned program and in every row, IS THE sha256 OF THE DUMP (.gsa) THAT YthgaljgelngmaaaDoorProg.lean LOADS. Nothing in Lean hashes anything: it is a label: what it is worth is what the hold of that sum in a sandbox is worth. -/
noncomputable def Tryd.pinned : Pinned := { name := "ythgaljgelngmaaadoor", sum := "deed3d62a7d7963dea732f637d4e20483fc53b93358e43944cd21f4503b60d33", checked := Tryd.checked }
namespace Rows
def none {H : Type} : Left H := { results := [], args := [] }

/- WHAT THE LISTED PACKAGE-LEVEL VARIABLES READ AS WHEN THE CALL BEGINS. Each datum BY PROGRAM (the guide's laid-datum.mjs) off the statement by which the dump's own 'gosem.cut.vars' lays the variable. In a bare row this is a premise. The card (YthgaljgelngmaaaDoorCards.lean) ties it to the program's text. -/
def laid_hanaper_term_shapes {H : Type} : DataW H := .agg [.agg [.lit (.bool false), .lit (.bool false), .lit (.int .i64 0)], .agg [.lit (.bool true), .lit (.bool false), .lit (.int .i64 0)], .agg [.lit (.bool true), .lit (.bool false), .lit (.int .i64 0)], .agg [.lit (.bool false), .lit (.bool true), .lit (.int .i64 0)], .agg [.lit (.bool false), .lit (.bool false), .lit (.int .i64 2)], .agg [.lit (.bool true), .lit (.bool false), .lit (.int .i64 2)], .agg [.lit (.bool false), .lit (.bool false), .lit (.int .i64 1)]]

/-- 'hanaperlaw06.DeriveCloses': WHATEVER THE INPUT: true; the input reads as it did. -/
def deriveClosesSpec : ChangeSpec := { name := "deriveCloses", fn := fun _ => fun
  | [d] => { results := [.lit (.bool true)], args := [d] }
  | _ => none }
def deriveClosesRow : OpenClaim := { program := "ythgaljgelngmaaadoor", sum := "deed3d62a7d7963dea732f637d4e20483fc53b93358e43944cd21f4503b60d33", func := "hanaper/hanaperlaw06.DeriveCloses", spec := "deriveCloses", unfollowed := true, recurses := true, named := ["hanaper/term.shapes"], loops := true, plainKeys := false, apart := false, laid := [("hanaper/term.shapes", laid_hanaper_term_shapes)] }
def DeriveClosesSaid : Prop := deriveClosesRow.holds Tryd.pinned (OpenSpec.ofChange deriveClosesSpec)

/-- ITS FALSE NEIGHBOUR: 'it returns false'. Refute it at one input. -/
def deriveClosesWrong : ChangeSpec := { name := "deriveCloses", fn := fun _ => fun
  | [d] => { results := [.lit (.bool false)], args := [d] }
  | _ => none }
def DeriveClosesWrongFalsely : Prop := deriveClosesRow.holds Tryd.pinned (OpenSpec.ofChange deriveClosesWrong)

/-- 'hanaperlaw06.DeriveMore': WHATEVER THE INPUT: true; the input reads as it did. -/
def deriveMoreSpec : ChangeSpec := { name := "deriveMore", fn := fun _ => fun
  | [d1, d2, d3] => { results := [.lit (.bool true)], args := [d1, d2, d3] }
  | _ => none }
def deriveMoreRow : OpenClaim := { program := "ythgaljgelngmaaadoor", sum := "deed3d62a7d7963dea732f637d4e20483fc53b93358e43944cd21f4503b60d33", func := "hanaper/hanaperlaw06.DeriveMore", spec := "deriveMore", unfollowed := true, recurses := true, named := ["hanaper/term.shapes"], loops := true, plainKeys := false, apart := false, laid := [("hanaper/term.shapes", laid_hanaper_term_shapes)] }
def DeriveMoreSaid : Prop := deriveMoreRow.holds Tryd.pinned (OpenSpec.ofChange deriveMoreSpec)

/-- ITS FALSE NEIGHBOUR: 'it returns false'. Refute it at one input. -/
def deriveMoreWrong : ChangeSpec := { name := "deriveMore", fn := fun _ => fun
  | [d1, d2, d3] => { results := [.lit (.bool false)], args := [d1, d2, d3] }
  | _ => none }
def DeriveMoreWrongFalsely : Prop := deriveMoreRow.holds Tryd.pinned (OpenSpec.ofChange deriveMoreWrong)

/-- 'hanaperlaw06.DeriveSecret': WHATEVER THE INPUT: true; the input reads as it did. -/
def deriveSecretSpec : ChangeSpec := { name := "deriveSecret", fn := fun _ => fun
  | [d1, d2, d3] => { results := [.lit (.bool true)], args := [d1, d2, d3] }
  | _ => none }
def deriveSecretRow : OpenClaim := { program := "ythgaljgelngmaaadoor", sum := "deed3d62a7d7963dea732f637d4e20483fc53b93358e43944cd21f4503b60d33", func := "hanaper/hanaperlaw06.DeriveSecret", spec := "deriveSecret", unfollowed := true, recurses := true, named := ["hanaper/term.shapes"], loops := true, plainKeys := false, apart := false, laid := [("hanaper/term.shapes", laid_hanaper_term_shapes)] }
def DeriveSecretSaid : Prop := deriveSecretRow.holds Tryd.pinned (OpenSpec.ofChange deriveSecretSpec)

/-- ITS FALSE NEIGHBOUR: 'it returns false'. Refute it at one input. -/
def deriveSecretWrong : ChangeSpec := { name := "deriveSecret", fn := fun _ => fun
  | [d1, d2, d3] => { results := [.lit (.bool false)], args := [d1, d2, d3] }
  | _ => none }
def DeriveSecretWrongFalsely : Prop := deriveSecretRow.holds Tryd.pinned (OpenSpec.ofChange deriveSecretWrong)

/- THE SECOND FORM. 'bulk': how many values and letters a reading holds, each counted each time it is reached (what is shared counts as often as it is met; a slice's spare places count too). A statement '..UptoSaid' is the law's where the arguments, and the package variables that the reading takes, are together of bulk at most 1048576: NARROWER than '..Said'. Prove '..Said' where nothing that the law and all that it calls make is longer than what came in: it says more and counts as full. Else prove '..UptoSaid'. A law counts once. -/
mutual
def uptoBulk {H : Type} : DataW H → Nat
  | .lit (.string bytes) => bytes.length + 1
  | .lit _ => 1
  | .nil => 1
  | .ptr d => uptoBulk d + 1
  | .slice elems spare => uptoBulkAll elems + uptoBulkAll spare + 1
  | .agg parts => uptoBulkAll parts + 1
  | .iface _ d => uptoBulk d + 1
  | .map entries => uptoBulkEntries entries + 1
  | .held _ => 1
def uptoBulkAll {H : Type} : List (DataW H) → Nat
  | [] => 0
  | d :: r => uptoBulk d + uptoBulkAll r
def uptoBulkEntries {H : Type} : List (Lit × DataW H) → Nat
  | [] => 0
  | x :: r => uptoBulkEntry x + uptoBulkEntries r
def uptoBulkEntry {H : Type} : Lit × DataW H → Nat
  | (.string bytes, d) => bytes.length + uptoBulk d + 1
  | (_, d) => uptoBulk d + 1
 end
def uptoSmall : (H : Type) → List (DataW H) → Bool := fun _ ds => decide (uptoBulkAll ds ≤ 1048576)
def OpenSpec.upto (s : _root_.Go.ChangeSpec) : _root_.Go.OpenSpec := { _root_.Go.OpenSpec.ofChange s with cond := some uptoSmall }

/-- 'hanaperlaw06.DeriveCloses', WHERE WHAT IT READS IS OF BULK AT MOST 1048576: true; the input reads as it did. -/
def deriveClosesUptoRow : OpenClaim := { program := "ythgaljgelngmaaadoor", sum := "deed3d62a7d7963dea732f637d4e20483fc53b93358e43944cd21f4503b60d33", func := "hanaper/hanaperlaw06.DeriveCloses", spec := "deriveCloses", unfollowed := true, recurses := true, named := ["hanaper/term.shapes"], loops := true, plainKeys := false, apart := false, laid := [("hanaper/term.shapes", laid_hanaper_term_shapes)], narrowed := true }
def DeriveClosesUptoSaid : Prop := deriveClosesUptoRow.holds Tryd.pinned (OpenSpec.upto deriveClosesSpec)

/-- 'hanaperlaw06.DeriveMore', WHERE WHAT IT READS IS OF BULK AT MOST 1048576: true; the input reads as it did. -/
def deriveMoreUptoRow : OpenClaim := { program := "ythgaljgelngmaaadoor", sum := "deed3d62a7d7963dea732f637d4e20483fc53b93358e43944cd21f4503b60d33", func := "hanaper/hanaperlaw06.DeriveMore", spec := "deriveMore", unfollowed := true, recurses := true, named := ["hanaper/term.shapes"], loops := true, plainKeys := false, apart := false, laid := [("hanaper/term.shapes", laid_hanaper_term_shapes)], narrowed := true }
def DeriveMoreUptoSaid : Prop := deriveMoreUptoRow.holds Tryd.pinned (OpenSpec.upto deriveMoreSpec)

/-- 'hanaperlaw06.DeriveSecret', WHERE WHAT IT READS IS OF BULK AT MOST 1048576: true; the input reads as it did. -/
def deriveSecretUptoRow : OpenClaim := { program := "ythgaljgelngmaaadoor", sum := "deed3d62a7d7963dea732f637d4e20483fc53b93358e43944cd21f4503b60d33", func := "hanaper/hanaperlaw06.DeriveSecret", spec := "deriveSecret", unfollowed := true, recurses := true, named := ["hanaper/term.shapes"], loops := true, plainKeys := false, apart := false, laid := [("hanaper/term.shapes", laid_hanaper_term_shapes)], narrowed := true }
def DeriveSecretUptoSaid : Prop := deriveSecretUptoRow.holds Tryd.pinned (OpenSpec.upto deriveSecretSpec)

end Rows
end Go.Proofs.YthgaljgelngmaaaDoor
