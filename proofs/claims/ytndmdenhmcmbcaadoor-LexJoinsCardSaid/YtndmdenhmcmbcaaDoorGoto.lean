/-
  A scope that the run leaves for its one label, once: over any program. No condition.
-/
import Derived.ScopeJumps
import Derived.WalkMore
namespace Go.Proofs.YtndmdenhmcmbcaaDoor
section
variable {P : Program} {a : Act} {w : World} {Q : Exit → Act → World → Prop}
/-- The run jumps to label l, in the frame a1 and the world w1, and jumps no more. -/
theorem wp_scope_goto {c rest : Code} (l : Nat) {a1 : Act} {w1 : World} (hf : findLabel c l = some rest)
    (first : c.wp P (Exit.jump l (fun a' w' => a' = a1 ∧ w' = w1) Q) a w)
    (pass : rest.wp P (Exit.jump l (fun a' w' => (a' = a1 ∧ w' = w1) ∧ 0 < 0) Q) a1 w1) : (Code.scope c).wp P Q a w := by
  refine wp_scope_jumps l (fun a' w' => a' = a1 ∧ w' = w1) (fun _ _ => 0) hf first ?_
  rintro a' w' ⟨rfl, rfl⟩
  exact pass
/-- The run jumps to label l, in a frame of which but x is known, and in a world of which R holds, and jumps no more. -/
theorem wp_scope_goto_any {c rest : Code} (l : Nat) {α : Type} {a1 : α → Act} {R : World → Prop} (hf : findLabel c l = some rest)
    (first : c.wp P (Exit.jump l (fun a' w' => R w' ∧ ∃ x, a' = a1 x) Q) a w)
    (pass : ∀ x w1, R w1 → rest.wp P (Exit.jump l (fun a' w' => (R w' ∧ ∃ x, a' = a1 x) ∧ 0 < 0) Q) (a1 x) w1) : (Code.scope c).wp P Q a w := by
  refine wp_scope_jumps l (fun a' w' => R w' ∧ ∃ x, a' = a1 x) (fun _ _ => 0) hf first ?_
  rintro a' w' ⟨hr, x, rfl⟩
  exact pass x w' hr
@[go_sem] theorem Exit.jump_ret (l : Nat) (J : Act → World → Prop) : Exit.jump l J Q .ret a w = Q .ret a w := rfl
end
end Go.Proofs.YtndmdenhmcmbcaaDoor
