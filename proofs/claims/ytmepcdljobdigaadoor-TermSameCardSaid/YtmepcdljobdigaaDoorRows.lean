/-
  NARROWER THAN 'FOR EVERY INPUT', by the rows' own cells (each row's printed sentence says how): TermPuts: loops, laid · TermGets: laid · TermSame: loops, laid · TermBack: loops, laid.
  DERIVED. THE GIVEN ROWS OF THIS SEAT. 4 by the template 'for every input the law returns true; each argument reads behind the call as it read before'; 0 by the template 'total and deterministic' (their statements: YtmepcdljobdigaaDoorTotals.lean).
  GIVEN WITH THE SEED: the statements are not yours to turn. If you find one false, say at which input.
  Laid BY PROGRAM, IN A SANDBOX (cutbox-rows.mjs): the forced cells as the released guide's own fill.sh prints them over the translation fb134deffc1c9526… (all of the seat's roots in one cut). By AI agents, Wed Nov 11 2026. No macro, syntax, notation, axiom, sorry.
-/
import Derived.Test.YtmepcdljobdigaaDoorChecked
import GoSem.Claim
import GoSem.ClaimJoined
import GoSem.ClaimMapViews
import Derived.JoinedTies
import Derived.KernelRfl
namespace Go.Proofs.YtmepcdljobdigaaDoor
/- THE CELL 'sum', in the pinned program and in every row, IS THE sha256 OF THE DUMP (.gsa) THAT YtmepcdljobdigaaDoorProg.lean LOADS. Nothing in Lean hashes anything: it is a label: what it is worth is what the hold of that sum in a sandbox is worth. -/
noncomputable def Tryd.pinned : Pinned := { name := "ytmepcdljobdigaadoor", sum := "fb134deffc1c952636ee56a2a49a79acd2a325c40932a721d94affb6c3fc86de", checked := Tryd.checked }
namespace Rows
def none {H : Type} : Left H := { results := [], args := [] }

/- WHAT THE LISTED PACKAGE-LEVEL VARIABLES READ AS WHEN THE CALL BEGINS. Each datum BY PROGRAM (the guide's laid-datum.mjs) off the statement by which the dump's own 'gosem.cut.vars' lays the variable. In a bare row this is a premise. The card (YtmepcdljobdigaaDoorCards.lean) ties it to the program's text. -/
def laid_hanaper_term_shapes {H : Type} : DataW H := .agg [.agg [.lit (.bool false), .lit (.bool false), .lit (.int .i64 0)], .agg [.lit (.bool true), .lit (.bool false), .lit (.int .i64 0)], .agg [.lit (.bool true), .lit (.bool false), .lit (.int .i64 0)], .agg [.lit (.bool false), .lit (.bool true), .lit (.int .i64 0)], .agg [.lit (.bool false), .lit (.bool false), .lit (.int .i64 2)], .agg [.lit (.bool true), .lit (.bool false), .lit (.int .i64 2)], .agg [.lit (.bool false), .lit (.bool false), .lit (.int .i64 1)]]

/-- 'hanaperlaw05.TermPuts': WHATEVER THE INPUT: true; the input reads as it did. -/
def termPutsSpec : ChangeSpec := { name := "termPuts", fn := fun _ => fun
  | [d] => { results := [.lit (.bool true)], args := [d] }
  | _ => none }
def termPutsRow : OpenClaim := { program := "ytmepcdljobdigaadoor", sum := "fb134deffc1c952636ee56a2a49a79acd2a325c40932a721d94affb6c3fc86de", func := "hanaper/hanaperlaw05.TermPuts", spec := "termPuts", unfollowed := true, recurses := true, named := ["hanaper/term.shapes"], loops := true, apart := false, laid := [("hanaper/term.shapes", laid_hanaper_term_shapes)] }
def TermPutsSaid : Prop := termPutsRow.holds Tryd.pinned (OpenSpec.ofChange termPutsSpec)

/-- ITS FALSE NEIGHBOUR: 'it returns false'. Refute it at one input. -/
def termPutsWrong : ChangeSpec := { name := "termPuts", fn := fun _ => fun
  | [d] => { results := [.lit (.bool false)], args := [d] }
  | _ => none }
def TermPutsWrongFalsely : Prop := termPutsRow.holds Tryd.pinned (OpenSpec.ofChange termPutsWrong)

/-- 'hanaperlaw05.TermGets': WHATEVER THE INPUT: true; the input reads as it did. -/
def termGetsSpec : ChangeSpec := { name := "termGets", fn := fun _ => fun
  | [d] => { results := [.lit (.bool true)], args := [d] }
  | _ => none }
def termGetsRow : OpenClaim := { program := "ytmepcdljobdigaadoor", sum := "fb134deffc1c952636ee56a2a49a79acd2a325c40932a721d94affb6c3fc86de", func := "hanaper/hanaperlaw05.TermGets", spec := "termGets", unfollowed := true, recurses := true, named := ["hanaper/term.shapes"], apart := false, laid := [("hanaper/term.shapes", laid_hanaper_term_shapes)] }
def TermGetsSaid : Prop := termGetsRow.holds Tryd.pinned (OpenSpec.ofChange termGetsSpec)

/-- ITS FALSE NEIGHBOUR: 'it returns false'. Refute it at one input. -/
def termGetsWrong : ChangeSpec := { name := "termGets", fn := fun _ => fun
  | [d] => { results := [.lit (.bool false)], args := [d] }
  | _ => none }
def TermGetsWrongFalsely : Prop := termGetsRow.holds Tryd.pinned (OpenSpec.ofChange termGetsWrong)

/-- 'hanaperlaw05.TermSame': WHATEVER THE INPUT: true; the input reads as it did. -/
def termSameSpec : ChangeSpec := { name := "termSame", fn := fun _ => fun
  | [d1, d2, d3] => { results := [.lit (.bool true)], args := [d1, d2, d3] }
  | _ => none }
def termSameRow : OpenClaim := { program := "ytmepcdljobdigaadoor", sum := "fb134deffc1c952636ee56a2a49a79acd2a325c40932a721d94affb6c3fc86de", func := "hanaper/hanaperlaw05.TermSame", spec := "termSame", unfollowed := true, recurses := true, named := ["hanaper/term.shapes"], loops := true, apart := false, laid := [("hanaper/term.shapes", laid_hanaper_term_shapes)] }
def TermSameSaid : Prop := termSameRow.holds Tryd.pinned (OpenSpec.ofChange termSameSpec)

/-- ITS FALSE NEIGHBOUR: 'it returns false'. Refute it at one input. -/
def termSameWrong : ChangeSpec := { name := "termSame", fn := fun _ => fun
  | [d1, d2, d3] => { results := [.lit (.bool false)], args := [d1, d2, d3] }
  | _ => none }
def TermSameWrongFalsely : Prop := termSameRow.holds Tryd.pinned (OpenSpec.ofChange termSameWrong)

/-- 'hanaperlaw05.TermBack': WHATEVER THE INPUT: true; the input reads as it did. -/
def termBackSpec : ChangeSpec := { name := "termBack", fn := fun _ => fun
  | [d1, d2, d3] => { results := [.lit (.bool true)], args := [d1, d2, d3] }
  | _ => none }
def termBackRow : OpenClaim := { program := "ytmepcdljobdigaadoor", sum := "fb134deffc1c952636ee56a2a49a79acd2a325c40932a721d94affb6c3fc86de", func := "hanaper/hanaperlaw05.TermBack", spec := "termBack", unfollowed := true, recurses := true, named := ["hanaper/term.shapes"], loops := true, apart := false, laid := [("hanaper/term.shapes", laid_hanaper_term_shapes)] }
def TermBackSaid : Prop := termBackRow.holds Tryd.pinned (OpenSpec.ofChange termBackSpec)

/-- ITS FALSE NEIGHBOUR: 'it returns false'. Refute it at one input. -/
def termBackWrong : ChangeSpec := { name := "termBack", fn := fun _ => fun
  | [d1, d2, d3] => { results := [.lit (.bool false)], args := [d1, d2, d3] }
  | _ => none }
def TermBackWrongFalsely : Prop := termBackRow.holds Tryd.pinned (OpenSpec.ofChange termBackWrong)

/- THE SECOND FORM. 'bulk': how many values and letters a reading holds, each counted each time it is reached (what is shared counts as often as it is met; a slice's spare places count too). A statement '..UptoSaid' is the law's where the arguments, and the package variables that the reading takes, are together of bulk at most 1048576: NARROWER than '..Said'. Prove '..Said' where nothing that the law and all that it calls make is longer than what came in: it says more and counts as full. Else prove '..UptoSaid'. A law counts once. -/
mutual
def uptoBulk {H : Type} : DataW H → Nat
  | .lit (.string bytes) => bytes.length + 1
  | .lit _ => 1
  | .nil => 1
  | .ptr d => uptoBulk d + 1
  | .slice elems spare => uptoBulkAll elems + uptoBulkAll spare + 1
  | .agg parts => uptoBulkAll parts + 1
  | .iface _ d => uptoBulk d + 1
  | .map entries => uptoBulkEntries entries + 1
  | .held _ => 1
def uptoBulkAll {H : Type} : List (DataW H) → Nat
  | [] => 0
  | d :: r => uptoBulk d + uptoBulkAll r
def uptoBulkEntries {H : Type} : List (Lit × DataW H) → Nat
  | [] => 0
  | x :: r => uptoBulkEntry x + uptoBulkEntries r
def uptoBulkEntry {H : Type} : Lit × DataW H → Nat
  | (.string bytes, d) => bytes.length + uptoBulk d + 1
  | (_, d) => uptoBulk d + 1
 end
def uptoSmall : (H : Type) → List (DataW H) → Bool := fun _ ds => decide (uptoBulkAll ds ≤ 1048576)
def OpenSpec.upto (s : _root_.Go.ChangeSpec) : _root_.Go.OpenSpec := { _root_.Go.OpenSpec.ofChange s with cond := some uptoSmall }

/-- 'hanaperlaw05.TermPuts', WHERE WHAT IT READS IS OF BULK AT MOST 1048576: true; the input reads as it did. -/
def termPutsUptoRow : OpenClaim := { program := "ytmepcdljobdigaadoor", sum := "fb134deffc1c952636ee56a2a49a79acd2a325c40932a721d94affb6c3fc86de", func := "hanaper/hanaperlaw05.TermPuts", spec := "termPuts", unfollowed := true, recurses := true, named := ["hanaper/term.shapes"], loops := true, apart := false, laid := [("hanaper/term.shapes", laid_hanaper_term_shapes)], narrowed := true }
def TermPutsUptoSaid : Prop := termPutsUptoRow.holds Tryd.pinned (OpenSpec.upto termPutsSpec)

/-- 'hanaperlaw05.TermGets', WHERE WHAT IT READS IS OF BULK AT MOST 1048576: true; the input reads as it did. -/
def termGetsUptoRow : OpenClaim := { program := "ytmepcdljobdigaadoor", sum := "fb134deffc1c952636ee56a2a49a79acd2a325c40932a721d94affb6c3fc86de", func := "hanaper/hanaperlaw05.TermGets", spec := "termGets", unfollowed := true, recurses := true, named := ["hanaper/term.shapes"], apart := false, laid := [("hanaper/term.shapes", laid_hanaper_term_shapes)], narrowed := true }
def TermGetsUptoSaid : Prop := termGetsUptoRow.holds Tryd.pinned (OpenSpec.upto termGetsSpec)

/-- 'hanaperlaw05.TermSame', WHERE WHAT IT READS IS OF BULK AT MOST 1048576: true; the input reads as it did. -/
def termSameUptoRow : OpenClaim := { program := "ytmepcdljobdigaadoor", sum := "fb134deffc1c952636ee56a2a49a79acd2a325c40932a721d94affb6c3fc86de", func := "hanaper/hanaperlaw05.TermSame", spec := "termSame", unfollowed := true, recurses := true, named := ["hanaper/term.shapes"], loops := true, apart := false, laid := [("hanaper/term.shapes", laid_hanaper_term_shapes)], narrowed := true }
def TermSameUptoSaid : Prop := termSameUptoRow.holds Tryd.pinned (OpenSpec.upto termSameSpec)

/-- 'hanaperlaw05.TermBack', WHERE WHAT IT READS IS OF BULK AT MOST 1048576: true; the input reads as it did. -/
def termBackUptoRow : OpenClaim := { program := "ytmepcdljobdigaadoor", sum := "fb134deffc1c952636ee56a2a49a79acd2a325c40932a721d94affb6c3fc86de", func := "hanaper/hanaperlaw05.TermBack", spec := "termBack", unfollowed := true, recurses := true, named := ["hanaper/term.shapes"], loops := true, apart := false, laid := [("hanaper/term.shapes", laid_hanaper_term_shapes)], narrowed := true }
def TermBackUptoSaid : Prop := termBackUptoRow.holds Tryd.pinned (OpenSpec.upto termBackSpec)

end Rows
end Go.Proofs.YtmepcdljobdigaaDoor
