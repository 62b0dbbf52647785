/-
  bytes.Clone, over the loaded program: its contract. No condition but the sizes that it names.
-/
import Derived.Test.YtmknemaocbbpeaaBase
import Derived.WalkSpells
namespace Go.Proofs.Ytmknemaocbbpeaa
open Go.RowKit
set_option maxRecDepth 100000
set_option linter.unusedVariables false

/-- bytes.Clone: the same bytes; new memory, but for nil. -/
theorem clone2_any (S : Nat → Prop) (v : Value) (l : List UInt8) (w : World) (h : BS w S v l) (hl : l.length ≤ 140737488355328) :
    Calls Try.prog 29 #[v] w fun e w' => Fresh w e w' l := by
  obtain ⟨i0, hi, hz0, hz1, hz2⟩ := info_parts info_byte
  obtain ⟨A, c, rfl, _, _, hn⟩ := h.form
  have heq := fun (a : Option Addr) (l c : Nat) (w : World) => Lib.run_eql_slice_nil (P := Try.prog) w 36 5 a l c 0 0 Try.underlying36
  cases A with
  | none =>
    obtain rfl := hn rfl
    have h0 : l = [] := by
      apply List.eq_nil_of_length_eq_zero
      obtain ⟨_, _, e, hl', _⟩ := h
      injection e with _ _ e3
      omega
    subst h0
    go_enter Try.func29, Try.ntmps29
    go_wp2_with fail
    go_ret
    exact ⟨_, rfl, World.ownsRow_nil _ _ _ _, Below.refl _ _⟩
  | some ad =>
    have hx := h.alloc (.cells #[] 5)
    go_enter Try.func29, Try.ntmps29
    go_wp2_with (at_builtin; refine wpList_grow _ rfl _ _ _ rfl w.heap.size 5 i0 Try.underlying36 hi hz0 hz1 hz2 (.slice (some ⟨w.heap.size, 0, none⟩) 0 0) [] rfl (World.ownsRow_lit w #[] 0 (Nat.le_refl _) (by simp [maxLen]) rfl) S _ l rfl hx (by simp; omega) (by simp) ?_; intro v1 w1 hown hg _)
    go_ret
    exact ⟨_, rfl, hown, ((Below.refl _ _).alloc (Nat.le_refl _) _).grown hg (by simp) (by simp [Value.ownBlock])⟩
end Go.Proofs.Ytmknemaocbbpeaa
