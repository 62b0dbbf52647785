/-
  The program's own functions of layer 11: groups, Pages, mayBe, bit: each one's contract over the loaded program.
  No condition but sizes that each contract names.
-/
import Derived.Test.YtgahnjhibpcbaaaInts
import Derived.Test.YtgahnjhibpcbaaaAlM
import Derived.Test.YtgahnjhibpcbaaaStep
namespace Go.Proofs.Ytgahnjhibpcbaaa
open Go.RowKit
set_option maxRecDepth 100000
set_option linter.unusedVariables false

/-- groups. -/
theorem groups_any (n : Int) (hn : I64 n) (s : Int) (hs : 2 ≤ s) (w : World) :
    Calls Try.prog 45 #[.int .i64 n, .int .i64 s] w fun e w' => e = .returned (.int .i64 (if n < 1 then 0 else (n - 1) / s + 1)) ∧ w = w' := by
  obtain ⟨h1, h2⟩ := hn
  by_cases h : n < 1
  · rw [if_pos h]
    go_enter Try.func45, Try.ntmps45
    go_wp2
    go_ret
    exact ⟨rfl, rfl⟩
  · rw [if_neg h]
    have e1 : (n - 1).tdiv s = (n - 1) / s := Int.tdiv_eq_ediv_of_nonneg (by omega)
    have h3 : 0 ≤ (n - 1) / s := Int.ediv_nonneg (by omega) (by omega)
    have h4 : (n - 1) / s ≤ n - 1 := Int.ediv_le_self _ (by omega)
    go_enter Try.func45, Try.ntmps45
    go_wp2
    go_ret
    exact ⟨rfl, rfl⟩

theorem pow_bit (i : Nat) : (2 : Int) ^ (7 - i % 8) % 256 = ((2 ^ (7 - i % 8) : Nat) : Int) := by
  have h : 7 - i % 8 < 8 := by omega
  generalize 7 - i % 8 = r at *
  match r, h with
  | 0, _ | 1, _ | 2, _ | 3, _ | 4, _ | 5, _ | 6, _ | 7, _ => rfl

/-- bit. -/
theorem bit_any (i : Nat) (hi : i ≤ 1000000) (w : World) :
    Calls Try.prog 46 #[.int .i64 (i : Int)] w fun e w' => e = .returned (.int .u8 ((2 ^ (7 - i % 8) : Nat) : Int)) ∧ w = w' := by
  go_enter Try.func46, Try.ntmps46
  go_wp2
  go_ret
  exact ⟨ret_int (pow_bit i), rfl⟩

/-- mayBe. -/
theorem mayBe_any (n : Int) (w : World) :
    Calls Try.prog 44 #[.int .i64 n] w fun e w' => e = .returned (.bool (decide (0 ≤ n ∧ n ≤ 4096))) ∧ w = w' := by
  by_cases h : 0 ≤ n
  · have e : decide (0 ≤ n ∧ n ≤ 4096) = decide (n ≤ 4096) := by simp [h]
    rw [e]
    have D0 := decide_eq_true h
    go_enter Try.func44, Try.ntmps44
    go_wp2
    go_ret
    exact ⟨rfl, rfl⟩
  · have e : decide (0 ≤ n ∧ n ≤ 4096) = false := by simp [h]
    rw [e]
    have D0 := decide_eq_false h
    go_enter Try.func44, Try.ntmps44
    go_wp2
    go_ret
    exact ⟨rfl, rfl⟩

/-- Pages. -/
theorem pages_any (n : Int) (hn : I64 n) (w : World) :
    Calls Try.prog 27 #[.int .i64 n] w fun e w' => e = .returned (.int .i64 (pagesS n)) ∧ w = w' := by
  have hg := groups_any n hn 256 (by omega) w
  unfold pagesS
  generalize (if n < 1 then 0 else (n - 1) / 256 + 1) = r at *
  go_enter Try.func27, Try.ntmps27
  go_wp2_with (go_at_call 45; refine hg.mono ?_; rintro e w' ⟨rfl, rfl⟩)
  go_ret
  exact ⟨rfl, rfl⟩

/-- What a call hands back: numbers in new memory, and whether there are such. -/
def IntsAs (w : World) (r : List Int × Bool) (e : Ending) (w' : World) : Prop :=
  ∃ v, e = .returned (.tuple #[v, .bool r.2]) ∧ w'.ownsRow w.heap.size 3 1 v r.1.length (r.1.map iv) ∧ Below w.heap.size w w'
theorem ints_none (w w' : World) (h : Below w.heap.size w w') : IntsAs w ([], false) (.returned (.tuple #[.slice none 0 0, .bool false])) w' := ⟨_, rfl, World.ownsRow_nil _ _ _ _, h⟩

end Go.Proofs.Ytgahnjhibpcbaaa
