/-
  A slot that was cleared, plainly: what a disk holds of it behind a crash. No condition.
-/
import Derived.Test.YtmknemaocbbpeaaSlM
import Derived.Test.YtmknemaocbbpeaaDkP
namespace Go.Proofs.Ytmknemaocbbpeaa
open Go.RowKit Gau
set_option linter.unusedVariables false

section
variable {s : Dk} {n i : Nat} {l : List UInt8}
theorem crashed_at (ks : List Bool) (h : s.pend i = none) : (s.crashed ks).safe[i]? = s.safe[i]? := by
  show (over s.safe (keeps s.pend s.nums ks s.nums.length))[i]? = _
  have : keeps s.pend s.nums ks s.nums.length i = none := by
    unfold keeps
    split
    · exact h
    · rfl
  rw [over_at, this]
  simp
/-- What is behind: a Clear of i, then a Put of j, then a crash. -/
theorem gone {j : Nat} {m : List UInt8} (ks : List Bool) (h : Rests s n) (hi : i < n) (hj : j < n) (hij : i ≠ j) :
    ((clearD s i).2 = 0 → ((layD (clearD s i).1 j m).1.crashed ks).safe[i]? = some (zs 256)) ∧
    ((layD (clearD s i).1 j m).2 = 0 → ((layD (clearD s i).1 j m).1.crashed ks).now j = m) := by
  have hn : ∀ k, ((layD (clearD s i).1 j m).1.crashed ks).pend k = none := fun _ => rfl
  rcases clear_rests h hi with ⟨a, b, c⟩ | ⟨a, b, c, d⟩
  · rcases lay_rests (i := j) (l := m) c with ⟨e, f, g⟩ | ⟨e, f, g, k⟩
    · refine ⟨fun _ => ?_, fun _ => ?_⟩
      · rw [crashed_at ks (g.pend i), f, set_other _ (Ne.symm hij), b]
      · refine now_at (hn j) ?_
        rw [crashed_at ks (g.pend j), f, List.getElem?_set_self (by rw [c.len]; exact hj)]
    · refine ⟨fun _ => ?_, fun x => ?_⟩
      · rw [crashed_at ks (k i hij), f, b]
      · rw [e] at x; exact absurd x (by decide)
  · rw [lay_dead c]
    exact ⟨fun x => by rw [a] at x; exact absurd x (by decide), fun x => by have x : (8 : Int) = 0 := x; exact absurd x (by decide)⟩
end
end Go.Proofs.Ytmknemaocbbpeaa
