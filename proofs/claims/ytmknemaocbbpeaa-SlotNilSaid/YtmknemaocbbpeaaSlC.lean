/-
  Get of slots, and what wrong numbers and no slots answer, over the loaded program: each one's contract. No condition but what each theorem names.
-/
import Derived.Test.YtmknemaocbbpeaaSlB
import Derived.Test.YtmknemaocbbpeaaSeC
import Derived.Test.YtmknemaocbbpeaaDkE
namespace Go.Proofs.Ytmknemaocbbpeaa
open Go.RowKit Gau
set_option maxRecDepth 100000
set_option linter.unusedVariables false

section
variable {w : World} {q : Nat} {p : DA} {a n : Nat} {s : Dk}
/-- Clear, where there is no such slot. -/
theorem lclear_bad (sv : Value) (i er : Int) (w : World) (hne : er ≠ 0)
    (hat : Calls Try.prog 20 #[sv, .int .i64 i] w fun e w' => e = .returned (.tuple #[.int .i64 0, .int .i64 er]) ∧ w = w') :
    Calls Try.prog 12 #[sv, .int .i64 i] w fun e w' => e = .returned (.int .i64 er) ∧ w = w' := by
  have hne2 : (er == 0) = false := by simpa using hne
  have hne3 : (er != 0) = true := by simpa using hne
  go_enter Try.func12, Try.ntmps12
  go_wp2
  apply wp_scope_goto (w1 := w) 0 rfl
  case first =>
    go_wp2_with (go_at_call 20; refine hat.mono ?_; rintro e w' ⟨rfl, rfl⟩)
    go_step3
    exact ⟨rfl, rfl, rfl⟩
  case pass =>
    go_wp2
    rw [Exit.jump_ret]
    go_ret
    exact ⟨rfl, rfl⟩
/-- Get, where there is no such slot. -/
theorem lget_bad (sv : Value) (i er : Int) (w : World) (hne : er ≠ 0)
    (hat : Calls Try.prog 20 #[sv, .int .i64 i] w fun e w' => e = .returned (.tuple #[.int .i64 0, .int .i64 er]) ∧ w = w') :
    Calls Try.prog 16 #[sv, .int .i64 i] w fun e w' => e = .returned (.tuple #[.slice none 0 0, .int .i64 er]) ∧ w = w' := by
  have hne2 : (er == 0) = false := by simpa using hne
  have hne3 : (er != 0) = true := by simpa using hne
  go_enter Try.func16, Try.ntmps16
  go_wp2
  apply wp_scope_goto (w1 := w) 0 rfl
  case first =>
    go_wp2_with (go_at_call 20; refine hat.mono ?_; rintro e w' ⟨rfl, rfl⟩)
    go_step3
    exact ⟨rfl, rfl, rfl⟩
  case pass =>
    go_wp2
    rw [Exit.jump_ret]
    go_ret2
    exact ⟨rfl, rfl⟩
/-- Used, of no slots. -/
theorem lused_nil (w : World) : Calls Try.prog 17 #[.pointer none] w fun e w' => e = .returned (.tuple #[.slice none 0 0, .int .i64 9]) ∧ w = w' := by
  have hm := lmade_nil w
  go_enter Try.func17, Try.ntmps17
  go_wp2
  apply wp_scope_goto (w1 := w) 0 rfl
  case first =>
    go_wp2_with (go_at_call 31; refine hm.mono ?_; rintro e w' ⟨rfl, rfl⟩)
    go_step3
    exact ⟨rfl, rfl, rfl⟩
  case pass =>
    go_wp2
    rw [Exit.jump_ret]
    go_ret2
    exact ⟨rfl, rfl⟩

/-- What a slot's sector tells: the bytes, and the error. -/
def getG (l : List UInt8) : List UInt8 × Int := if (getS l).2.2 ≠ 0 then ([], (getS l).2.2) else if (getS l).1 ≠ 4 then ([], 17) else ((getS l).2.1, 0)
def GotAs (w : World) (r : List UInt8 × Int) (e : Ending) (w' : World) : Prop :=
  ∃ v, e = .returned (.tuple #[v, .int .i64 r.2]) ∧ w'.ownsRow w.heap.size 5 1 v r.1.length (r.1.map bv) ∧ Below w.heap.size w w'
theorem got_none (w w' : World) (n : Int) (h : Below w.heap.size w w') : GotAs w ([], n) (.returned (.tuple #[.slice none 0 0, .int .i64 n])) w' := ⟨_, rfl, World.ownsRow_nil _ _ _ _, h⟩

/-- Get. -/
theorem lget_ok (h : DS w p s) (hs : SL w q p a n) (hn : a + n ≤ s.safe.length) (hf : s.fuse ≠ 0) (i : Nat) (hi : i < n) :
    Calls Try.prog 16 #[.pointer (some ⟨q, 0, none⟩), .int .i64 (i : Int)] w (GotAs w (getG (s.now (a + i)))) := by
  have hat := at_ok hs i hi
  have hr := read_ok h (a + i) (by omega) hf
  have c0 := hs.c0
  have hg := fun w1 v1 (hb : BS w1 (fun b => w.heap.size ≤ b ∧ b < w1.heap.size) v1 (s.now (a + i))) => get_sect _ v1 _ w1 hb
  generalize s.now (a + i) = x at *
  unfold getG
  obtain ⟨⟨k, m, er⟩, hgs⟩ : ∃ r, r = getS x := ⟨_, rfl⟩
  rw [← hgs] at hg ⊢
  clear hgs h hs hf
  dsimp only
  have hno := fun w' er => got_none w w' er
  by_cases he : er = 0
  · subst he
    rw [if_neg (by decide)]
    by_cases hk : k = 4
    · subst hk
      rw [if_neg (by decide)]
      go_enter Try.func16, Try.ntmps16
      go_wp2
      refine wp_scope_straight ?_
      go_wp2_with fail
      refine hat.mono ?_
      rintro e w' ⟨rfl, rfl⟩
      go_wp2_with fail
      refine hr.mono ?_
      rintro e w1 ⟨v1, rfl, how1, b1⟩
      go_wp2_with fail
      refine (hg w1 v1 (own_BS how1)).mono ?_
      rintro e w2 ⟨v2, rfl, how2, b2⟩
      go_wp2
      rw [Exit.noGoto_ret]
      go_ret2
      exact ⟨v2, rfl, own_base how2 b1.size, b1.trans (b2.mono b1.size)⟩
    · rw [if_pos hk]
      have hk2 : (k == 4) = false := by simpa using hk
      have hk3 : (k != 4) = true := by simpa using hk
      go_enter Try.func16, Try.ntmps16
      go_wp2
      apply wp_scope_goto_two (α := Value) (β := Value) (R := fun w' => Below w.heap.size w w') 0 rfl
      case first =>
        go_wp2_with fail
        refine hat.mono ?_
        rintro e w' ⟨rfl, rfl⟩
        go_wp2_with fail
        refine hr.mono ?_
        rintro e w1 ⟨v1, rfl, how1, b1⟩
        go_wp2_with fail
        refine (hg w1 v1 (own_BS how1)).mono ?_
        rintro e w2 ⟨v2, rfl, how2, b2⟩
        go_wp2
        go_step3
        exact ⟨rfl, b1.trans (b2.mono b1.size), v1, v2, rfl⟩
      case pass =>
        intro x y w1 hr
        go_wp2
        rw [Exit.jump_ret]
        go_ret2
        exact hno _ _ hr
  · rw [if_pos he]
    have hk2 : (er == 0) = false := by simpa using he
    have hk3 : (er != 0) = true := by simpa using he
    go_enter Try.func16, Try.ntmps16
    go_wp2
    apply wp_scope_goto_two (α := Value) (β := Value) (R := fun w' => Below w.heap.size w w') 0 rfl
    case first =>
      go_wp2_with fail
      refine hat.mono ?_
      rintro e w' ⟨rfl, rfl⟩
      go_wp2_with fail
      refine hr.mono ?_
      rintro e w1 ⟨v1, rfl, how1, b1⟩
      go_wp2_with fail
      refine (hg w1 v1 (own_BS how1)).mono ?_
      rintro e w2 ⟨v2, rfl, how2, b2⟩
      go_wp2
      go_step3
      exact ⟨rfl, b1.trans (b2.mono b1.size), v1, v2, rfl⟩
    case pass =>
      intro x y w1 hr
      go_wp2
      rw [Exit.jump_ret]
      go_ret2
      exact hno _ _ hr
end
end Go.Proofs.Ytmknemaocbbpeaa
