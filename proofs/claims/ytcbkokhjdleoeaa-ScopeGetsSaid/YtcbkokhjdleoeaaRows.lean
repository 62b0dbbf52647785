/-
  NARROWER THAN 'FOR EVERY INPUT', by the rows' own cells (each row's printed sentence says how): ScopePuts: loops · ScopeGets: loops · ScopeMatches: loops · ScopeBack: loops · ScopeNots: loops.
  DERIVED. THE GIVEN ROWS OF THIS SEAT. 5 by the template 'for every input the law returns true; each argument reads behind the call as it read before'; 0 by the template 'total and deterministic' (their statements: YtcbkokhjdleoeaaTotals.lean).
  GIVEN WITH THE SEED: the statements are not yours to turn. If you find one false, say at which input.
  Laid BY PROGRAM, IN A SANDBOX (cutbox-rows.mjs): the forced cells as the released guide's own fill.sh prints them over the translation 7265c301b4824f68… (all of the seat's roots in one cut). By AI agents, Wed Nov 11 2026. No macro, syntax, notation, axiom, sorry.
-/
import Derived.Test.YtcbkokhjdleoeaaChecked
import GoSem.Claim
import GoSem.ClaimJoined
import GoSem.ClaimMapViews
import Derived.JoinedTies
import Derived.KernelRfl
namespace Go.Proofs.Ytcbkokhjdleoeaa
/- THE CELL 'sum', in the pinned program and in every row, IS THE sha256 OF THE DUMP (.gsa) THAT YtcbkokhjdleoeaaProg.lean LOADS. Nothing in Lean hashes anything: it is a label: what it is worth is what the hold of that sum in a sandbox is worth. -/
noncomputable def Try.pinned : Pinned := { name := "ytcbkokhjdleoeaa", sum := "7265c301b4824f6879054713e890abb91095d13b0a77c5a34694b0bfb5b97140", checked := Try.checked }
namespace Rows
def none {H : Type} : Left H := { results := [], args := [] }

/-- 'hanaperlaw20.ScopePuts': WHATEVER THE INPUT: true; the input reads as it did. -/
def scopePutsSpec : ChangeSpec := { name := "scopePuts", fn := fun _ => fun
  | [d] => { results := [.lit (.bool true)], args := [d] }
  | _ => none }
def scopePutsRow : OpenClaim := { program := "ytcbkokhjdleoeaa", sum := "7265c301b4824f6879054713e890abb91095d13b0a77c5a34694b0bfb5b97140", func := "hanaper/hanaperlaw20.ScopePuts", spec := "scopePuts", inPlace := ["internal/bytealg.IndexByteString", "internal/bytealg.IndexString"], unfollowed := true, recurses := true, named := ["internal/bytealg.MaxLen"], loops := true, apart := false }
def ScopePutsSaid : Prop := scopePutsRow.holds Try.pinned (OpenSpec.ofChange scopePutsSpec)

/-- ITS FALSE NEIGHBOUR: 'it returns false'. Refute it at one input. -/
def scopePutsWrong : ChangeSpec := { name := "scopePuts", fn := fun _ => fun
  | [d] => { results := [.lit (.bool false)], args := [d] }
  | _ => none }
def ScopePutsWrongFalsely : Prop := scopePutsRow.holds Try.pinned (OpenSpec.ofChange scopePutsWrong)

/-- 'hanaperlaw20.ScopeGets': WHATEVER THE INPUT: true; the input reads as it did. -/
def scopeGetsSpec : ChangeSpec := { name := "scopeGets", fn := fun _ => fun
  | [d1, d2] => { results := [.lit (.bool true)], args := [d1, d2] }
  | _ => none }
def scopeGetsRow : OpenClaim := { program := "ytcbkokhjdleoeaa", sum := "7265c301b4824f6879054713e890abb91095d13b0a77c5a34694b0bfb5b97140", func := "hanaper/hanaperlaw20.ScopeGets", spec := "scopeGets", inPlace := ["internal/bytealg.IndexByteString", "internal/bytealg.IndexString"], unfollowed := true, recurses := true, named := ["internal/bytealg.MaxLen"], loops := true, apart := false }
def ScopeGetsSaid : Prop := scopeGetsRow.holds Try.pinned (OpenSpec.ofChange scopeGetsSpec)

/-- ITS FALSE NEIGHBOUR: 'it returns false'. Refute it at one input. -/
def scopeGetsWrong : ChangeSpec := { name := "scopeGets", fn := fun _ => fun
  | [d1, d2] => { results := [.lit (.bool false)], args := [d1, d2] }
  | _ => none }
def ScopeGetsWrongFalsely : Prop := scopeGetsRow.holds Try.pinned (OpenSpec.ofChange scopeGetsWrong)

/-- 'hanaperlaw20.ScopeMatches': WHATEVER THE INPUT: true; the input reads as it did. -/
def scopeMatchesSpec : ChangeSpec := { name := "scopeMatches", fn := fun _ => fun
  | [d1, d2] => { results := [.lit (.bool true)], args := [d1, d2] }
  | _ => none }
def scopeMatchesRow : OpenClaim := { program := "ytcbkokhjdleoeaa", sum := "7265c301b4824f6879054713e890abb91095d13b0a77c5a34694b0bfb5b97140", func := "hanaper/hanaperlaw20.ScopeMatches", spec := "scopeMatches", inPlace := ["internal/bytealg.IndexByteString", "internal/bytealg.IndexString"], unfollowed := true, recurses := true, named := ["internal/bytealg.MaxLen"], loops := true, apart := false }
def ScopeMatchesSaid : Prop := scopeMatchesRow.holds Try.pinned (OpenSpec.ofChange scopeMatchesSpec)

/-- ITS FALSE NEIGHBOUR: 'it returns false'. Refute it at one input. -/
def scopeMatchesWrong : ChangeSpec := { name := "scopeMatches", fn := fun _ => fun
  | [d1, d2] => { results := [.lit (.bool false)], args := [d1, d2] }
  | _ => none }
def ScopeMatchesWrongFalsely : Prop := scopeMatchesRow.holds Try.pinned (OpenSpec.ofChange scopeMatchesWrong)

/-- 'hanaperlaw20.ScopeBack': WHATEVER THE INPUT: true; the input reads as it did. -/
def scopeBackSpec : ChangeSpec := { name := "scopeBack", fn := fun _ => fun
  | [d1, d2] => { results := [.lit (.bool true)], args := [d1, d2] }
  | _ => none }
def scopeBackRow : OpenClaim := { program := "ytcbkokhjdleoeaa", sum := "7265c301b4824f6879054713e890abb91095d13b0a77c5a34694b0bfb5b97140", func := "hanaper/hanaperlaw20.ScopeBack", spec := "scopeBack", inPlace := ["internal/bytealg.IndexByteString", "internal/bytealg.IndexString"], unfollowed := true, recurses := true, named := ["internal/bytealg.MaxLen"], loops := true, apart := false }
def ScopeBackSaid : Prop := scopeBackRow.holds Try.pinned (OpenSpec.ofChange scopeBackSpec)

/-- ITS FALSE NEIGHBOUR: 'it returns false'. Refute it at one input. -/
def scopeBackWrong : ChangeSpec := { name := "scopeBack", fn := fun _ => fun
  | [d1, d2] => { results := [.lit (.bool false)], args := [d1, d2] }
  | _ => none }
def ScopeBackWrongFalsely : Prop := scopeBackRow.holds Try.pinned (OpenSpec.ofChange scopeBackWrong)

/-- 'hanaperlaw20.ScopeNots': WHATEVER THE INPUT: true; the input reads as it did. -/
def scopeNotsSpec : ChangeSpec := { name := "scopeNots", fn := fun _ => fun
  | [d1, d2, d3] => { results := [.lit (.bool true)], args := [d1, d2, d3] }
  | _ => none }
def scopeNotsRow : OpenClaim := { program := "ytcbkokhjdleoeaa", sum := "7265c301b4824f6879054713e890abb91095d13b0a77c5a34694b0bfb5b97140", func := "hanaper/hanaperlaw20.ScopeNots", spec := "scopeNots", inPlace := ["internal/bytealg.IndexByteString", "internal/bytealg.IndexString"], unfollowed := true, recurses := true, named := ["internal/bytealg.MaxLen"], loops := true, apart := false }
def ScopeNotsSaid : Prop := scopeNotsRow.holds Try.pinned (OpenSpec.ofChange scopeNotsSpec)

/-- ITS FALSE NEIGHBOUR: 'it returns false'. Refute it at one input. -/
def scopeNotsWrong : ChangeSpec := { name := "scopeNots", fn := fun _ => fun
  | [d1, d2, d3] => { results := [.lit (.bool false)], args := [d1, d2, d3] }
  | _ => none }
def ScopeNotsWrongFalsely : Prop := scopeNotsRow.holds Try.pinned (OpenSpec.ofChange scopeNotsWrong)

/- THE SECOND FORM. 'bulk': how many values and letters a reading holds, each counted each time it is reached (what is shared counts as often as it is met; a slice's spare places count too). A statement '..UptoSaid' is the law's where the arguments, and the package variables that the reading takes, are together of bulk at most 1048576: NARROWER than '..Said'. Prove '..Said' where nothing that the law and all that it calls make is longer than what came in: it says more and counts as full. Else prove '..UptoSaid'. A law counts once. -/
mutual
def uptoBulk {H : Type} : DataW H → Nat
  | .lit (.string bytes) => bytes.length + 1
  | .lit _ => 1
  | .nil => 1
  | .ptr d => uptoBulk d + 1
  | .slice elems spare => uptoBulkAll elems + uptoBulkAll spare + 1
  | .agg parts => uptoBulkAll parts + 1
  | .iface _ d => uptoBulk d + 1
  | .map entries => uptoBulkEntries entries + 1
  | .held _ => 1
def uptoBulkAll {H : Type} : List (DataW H) → Nat
  | [] => 0
  | d :: r => uptoBulk d + uptoBulkAll r
def uptoBulkEntries {H : Type} : List (Lit × DataW H) → Nat
  | [] => 0
  | x :: r => uptoBulkEntry x + uptoBulkEntries r
def uptoBulkEntry {H : Type} : Lit × DataW H → Nat
  | (.string bytes, d) => bytes.length + uptoBulk d + 1
  | (_, d) => uptoBulk d + 1
 end
def uptoSmall : (H : Type) → List (DataW H) → Bool := fun _ ds => decide (uptoBulkAll ds ≤ 1048576)
def OpenSpec.upto (s : _root_.Go.ChangeSpec) : _root_.Go.OpenSpec := { _root_.Go.OpenSpec.ofChange s with cond := some uptoSmall }

/-- 'hanaperlaw20.ScopePuts', WHERE WHAT IT READS IS OF BULK AT MOST 1048576: true; the input reads as it did. -/
def scopePutsUptoRow : OpenClaim := { program := "ytcbkokhjdleoeaa", sum := "7265c301b4824f6879054713e890abb91095d13b0a77c5a34694b0bfb5b97140", func := "hanaper/hanaperlaw20.ScopePuts", spec := "scopePuts", inPlace := ["internal/bytealg.IndexByteString", "internal/bytealg.IndexString"], unfollowed := true, recurses := true, named := ["internal/bytealg.MaxLen"], loops := true, apart := false, narrowed := true }
def ScopePutsUptoSaid : Prop := scopePutsUptoRow.holds Try.pinned (OpenSpec.upto scopePutsSpec)

/-- 'hanaperlaw20.ScopeGets', WHERE WHAT IT READS IS OF BULK AT MOST 1048576: true; the input reads as it did. -/
def scopeGetsUptoRow : OpenClaim := { program := "ytcbkokhjdleoeaa", sum := "7265c301b4824f6879054713e890abb91095d13b0a77c5a34694b0bfb5b97140", func := "hanaper/hanaperlaw20.ScopeGets", spec := "scopeGets", inPlace := ["internal/bytealg.IndexByteString", "internal/bytealg.IndexString"], unfollowed := true, recurses := true, named := ["internal/bytealg.MaxLen"], loops := true, apart := false, narrowed := true }
def ScopeGetsUptoSaid : Prop := scopeGetsUptoRow.holds Try.pinned (OpenSpec.upto scopeGetsSpec)

/-- 'hanaperlaw20.ScopeMatches', WHERE WHAT IT READS IS OF BULK AT MOST 1048576: true; the input reads as it did. -/
def scopeMatchesUptoRow : OpenClaim := { program := "ytcbkokhjdleoeaa", sum := "7265c301b4824f6879054713e890abb91095d13b0a77c5a34694b0bfb5b97140", func := "hanaper/hanaperlaw20.ScopeMatches", spec := "scopeMatches", inPlace := ["internal/bytealg.IndexByteString", "internal/bytealg.IndexString"], unfollowed := true, recurses := true, named := ["internal/bytealg.MaxLen"], loops := true, apart := false, narrowed := true }
def ScopeMatchesUptoSaid : Prop := scopeMatchesUptoRow.holds Try.pinned (OpenSpec.upto scopeMatchesSpec)

/-- 'hanaperlaw20.ScopeBack', WHERE WHAT IT READS IS OF BULK AT MOST 1048576: true; the input reads as it did. -/
def scopeBackUptoRow : OpenClaim := { program := "ytcbkokhjdleoeaa", sum := "7265c301b4824f6879054713e890abb91095d13b0a77c5a34694b0bfb5b97140", func := "hanaper/hanaperlaw20.ScopeBack", spec := "scopeBack", inPlace := ["internal/bytealg.IndexByteString", "internal/bytealg.IndexString"], unfollowed := true, recurses := true, named := ["internal/bytealg.MaxLen"], loops := true, apart := false, narrowed := true }
def ScopeBackUptoSaid : Prop := scopeBackUptoRow.holds Try.pinned (OpenSpec.upto scopeBackSpec)

/-- 'hanaperlaw20.ScopeNots', WHERE WHAT IT READS IS OF BULK AT MOST 1048576: true; the input reads as it did. -/
def scopeNotsUptoRow : OpenClaim := { program := "ytcbkokhjdleoeaa", sum := "7265c301b4824f6879054713e890abb91095d13b0a77c5a34694b0bfb5b97140", func := "hanaper/hanaperlaw20.ScopeNots", spec := "scopeNots", inPlace := ["internal/bytealg.IndexByteString", "internal/bytealg.IndexString"], unfollowed := true, recurses := true, named := ["internal/bytealg.MaxLen"], loops := true, apart := false, narrowed := true }
def ScopeNotsUptoSaid : Prop := scopeNotsUptoRow.holds Try.pinned (OpenSpec.upto scopeNotsSpec)

end Rows
end Go.Proofs.Ytcbkokhjdleoeaa
