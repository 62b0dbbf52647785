/-
  strings.Clone over the loaded program: its contract. No condition but the size.
-/
import Derived.Test.YtommcdgognlfcaaLayS
import Derived.Test.YtommcdgognlfcaaTxt
import Derived.Test.YtommcdgognlfcaaTxs
import Derived.Shelf.Strconv.Clone
import Derived.Lib.Hide
import Derived.BigQuiet
namespace Go.Proofs.Ytommcdgognlfcaa
open Go.RowKit
set_option maxRecDepth 100000
set_option linter.unusedVariables false

/-- strings.Clone. -/
theorem clone_any (l : List UInt8) (hl : l.length ≤ 140737488355328) (w : World) :
    Calls Try.prog 33 #[strV l] w fun e w' => e = .returned (strV l) ∧ Below w.heap.size w w' := by
  have h := fun w => Any.stringslite_Clone Try.laysClone ⟨l.toArray⟩ w (by rw [str_size]; omega)
  have hi : ∀ w, Calls Try.prog 41 #[.string ⟨l.toArray⟩] w fun e w' => e = .returned (.string ⟨l.toArray⟩) ∧ Below w.heap.size w w' := h
  clear h
  unfold strV
  generalize (⟨l.toArray⟩ : ByteArray) = s at *
  go_enter Try.func33, Try.ntmps33
  go_wp2_with (go_at_call 41; refine (hi _).mono ?_; rintro e w' ⟨rfl, bl⟩)
  go_ret
  exact ⟨rfl, bl⟩
end Go.Proofs.Ytommcdgognlfcaa
