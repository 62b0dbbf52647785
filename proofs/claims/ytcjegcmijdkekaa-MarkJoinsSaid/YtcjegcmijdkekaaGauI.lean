/-
  'Is' of layer 3's statements, over the loaded program: the program's number and the document's are the same. No condition.
-/
import Derived.Test.YtcjegcmijdkekaaGauR
namespace Go.Proofs.Ytcjegcmijdkekaa
open Go.RowKit Gau
set_option linter.unusedVariables false

theorem is_yes (a : G) (w : World) :
    Calls Try.prog 9 #[cz a, rz a] w fun e w' => e = .returned (.bool true) ∧ Below w.heap.size w w' := by
  have hp := parts_cz a
  unfold rz
  generalize cz a = x at *
  go_enter Try.func9, Try.ntmps9
  go_wp2_with fail
  refine (hp _).mono ?_
  rintro e w1 ⟨rfl, rfl⟩
  go_wp2
  go_ret
  exact ⟨rfl, (Below.refl _ _).alloc (Nat.le_refl _) _⟩

/-- The program's number and the document's are the same. -/
def SameZ (x y : Value) : Prop := ∃ a : G, x = cz a ∧ y = rz a
theorem SameZ.mk (a : G) : SameZ (cz a) (rz a) := ⟨a, rfl, rfl⟩
theorem is_same (x y : Value) (h : SameZ x y) (w : World) :
    Calls Try.prog 9 #[x, y] w fun e w' => e = .returned (.bool true) ∧ Below w.heap.size w w' := by
  obtain ⟨a, rfl, rfl⟩ := h
  exact is_yes a w

end Go.Proofs.Ytcjegcmijdkekaa
