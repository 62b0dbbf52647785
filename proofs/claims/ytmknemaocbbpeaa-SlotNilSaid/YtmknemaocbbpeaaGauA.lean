/-
  The functions of gauss, over the loaded program: each one's contract: what it answers; the world is as it was.
  No condition but the sizes that each contract names.
-/
import Derived.Test.YtmknemaocbbpeaaProg
import Derived.Test.YtmknemaocbbpeaaGauM
import Derived.Test.YtmknemaocbbpeaaGauF
import Derived.Lib.Hide
import Derived.WalkKit
import Derived.WalkSpells
import Derived.BigQuiet
import Derived.Deep.QuietTactic
namespace Go.Proofs.Ytmknemaocbbpeaa
open Go.RowKit Gau
set_option maxRecDepth 100000
set_option linter.unusedVariables false

/-- A number of the field as the program holds it. -/
def cz (a : G) : Value := .complex .f64 (fl a.re.val) (fl a.im.val)

theorem modulo_val (n : Int) (h : -9223372036854775808 ≤ n) (h2 : n ≤ 9223372036854775807) : (n.tmod 8191 + 8191).tmod 8191 = n % 8191 := by
  have h3 := Int.tmod_eq_emod (a := n) (b := 8191)
  split at h3
  · rw [h3, Int.tmod_eq_emod_of_nonneg (by omega)]; omega
  · rw [h3, Int.tmod_eq_emod_of_nonneg (by simp; omega)]; simp

theorem int_eq {k : IntKind} {a b : Int} (h : a = b) : Value.int k a = .int k b := by rw [h]

theorem modulo_any (n : Int) (h : -9223372036854775808 ≤ n) (h2 : n ≤ 9223372036854775807) (w : World) :
    Calls Try.prog 56 #[.int .i64 n] w fun e w' => e = .returned (.int .i64 ((ofI n).val : Int)) ∧ w = w' := by
  have e : (wrap64 (n.tmod 8191 + 8191)).tmod 8191 = ((ofI n).val : Int) := by
    rw [ofI_val, IntWalk.wrap64_in _ (by
      have := Int.tmod_eq_emod (a := n) (b := 8191)
      split at this <;> omega), modulo_val n h h2]
  go_enter Try.func56, Try.ntmps56
  go_wp2
  go_ret
  exact ⟨rfl, rfl⟩

theorem conv_fl (n : Int) (h : n.natAbs < 2 ^ 53) (w : World) : (convert 87 3 (.float .f64 (fl n))).run Try.prog w = .ok (.int .i64 n) w :=
  run_convert_float_int w 87 3 .f64 .i64 (fl n) n (by kernel_rfl) Try.underlying3 (int_fl n h)

theorem whole_fl (n : Int) (h : n.natAbs < 2 ^ 53) (w : World) :
    Calls Try.prog 48 #[.float .f64 (fl n)] w fun e w' => e = .returned (.int .i64 n) ∧ w = w' := by
  have h1 := over_min n h
  have h2 := below_max n h
  have h3 := conv_fl n h
  generalize fl n = x at *
  go_enter Try.func48, Try.ntmps48
  go_wp2
  go_ret
  exact ⟨rfl, rfl⟩

theorem gof_any (re im : Int) (h : -9223372036854775808 ≤ re) (h2 : re ≤ 9223372036854775807) (h3 : -9223372036854775808 ≤ im) (h4 : im ≤ 9223372036854775807) (w : World) :
    Calls Try.prog 49 #[.int .i64 re, .int .i64 im] w fun e w' => e = .returned (cz (gI re im)) ∧ w = w' := by
  go_enter Try.func49, Try.ntmps49
  go_wp2_with fail
  refine (modulo_any re h h2 _).mono ?_
  rintro e w' ⟨rfl, rfl⟩
  go_wp2_with fail
  refine (modulo_any im h3 h4 _).mono ?_
  rintro e w' ⟨rfl, rfl⟩
  go_wp2
  go_ret
  exact ⟨rfl, rfl⟩

theorem parts_fl (a b : Int) (h : a.natAbs < 2 ^ 53) (h2 : b.natAbs < 2 ^ 53) (w : World) :
    Calls Try.prog 41 #[.complex .f64 (fl a) (fl b)] w fun e w' => e = .returned (.tuple #[.int .i64 a, .int .i64 b]) ∧ w = w' := by
  go_enter Try.func41, Try.ntmps41
  go_wp2_with fail
  refine (whole_fl a h _).mono ?_
  rintro e w' ⟨rfl, rfl⟩
  go_wp2_with fail
  refine (whole_fl b h2 _).mono ?_
  rintro e w' ⟨rfl, rfl⟩
  go_wp2
  go_ret2
  exact ⟨rfl, rfl⟩

theorem reduced_fl (a b : Int) (h : a.natAbs < 2 ^ 53) (h2 : b.natAbs < 2 ^ 53) (w : World) :
    Calls Try.prog 57 #[.complex .f64 (fl a) (fl b)] w fun e w' => e = .returned (cz (gI a b)) ∧ w = w' := by
  go_enter Try.func57, Try.ntmps57
  go_wp2_with fail
  refine (parts_fl a b h h2 _).mono ?_
  rintro e w' ⟨rfl, rfl⟩
  go_wp2_with fail
  refine (gof_any a b (by omega) (by omega) (by omega) (by omega) _).mono ?_
  rintro e w' ⟨rfl, rfl⟩
  go_wp2
  go_ret
  exact ⟨rfl, rfl⟩

theorem part_lt (x : F) : (x.val : Int).natAbs < 2 ^ 53 := by have := x.isLt; omega

theorem parts_cz (a : G) (w : World) :
    Calls Try.prog 41 #[cz a] w fun e w' => e = .returned (.tuple #[.int .i64 a.re.val, .int .i64 a.im.val]) ∧ w = w' :=
  parts_fl _ _ (part_lt _) (part_lt _) w

theorem add_run (a b : G) (w : World) : (binOp .add 82 (cz a) (cz b)).run Try.prog w = .ok (.complex .f64 (fl (a.re.val + b.re.val)) (fl (a.im.val + b.im.val))) w := by
  refine run_complex_sum w .add (.inl rfl) _ _ _ _ _ _ _ _ ?_
  have h1 := a.re.isLt
  have h2 := b.re.isLt
  have h3 := a.im.isLt
  have h4 := b.im.isLt
  unfold cSumBits
  rw [add_fl _ _ (part_lt _) (part_lt _) (by omega), Option.bind_some, add_fl _ _ (part_lt _) (part_lt _) (by omega)]
  rfl

theorem prod_le (x y : F) : 0 ≤ (x.val : Int) * y.val ∧ (x.val : Int) * y.val ≤ 67092481 := by
  have h := Nat.mul_le_mul (Nat.le_of_lt x.isLt) (Nat.le_of_lt y.isLt)
  rw [← Int.natCast_mul]
  omega

theorem mul_run (a b : G) (w : World) : (binOp .mul 82 (cz a) (cz b)).run Try.prog w =
    .ok (.complex .f64 (fl ((a.re.val : Int) * b.re.val - a.im.val * b.im.val)) (fl ((a.re.val : Int) * b.im.val + a.im.val * b.re.val))) w := by
  refine run_complex_mul w _ _ _ _ _ _ _ ?_
  have h1 := prod_le a.re b.re
  have h2 := prod_le a.im b.im
  have h3 := prod_le a.re b.im
  have h4 := prod_le a.im b.re
  unfold cMulBits
  rw [mul_fl _ _ (by omega) (by omega) (part_lt _) (part_lt _) (by omega), mul_fl _ _ (by omega) (by omega) (part_lt _) (part_lt _) (by omega),
    mul_fl _ _ (by omega) (by omega) (part_lt _) (part_lt _) (by omega), mul_fl _ _ (by omega) (by omega) (part_lt _) (part_lt _) (by omega)]
  simp only [Option.bind_some]
  rw [sub_fl _ _ (by omega) (by omega) (by omega), add_fl _ _ (by omega) (by omega) (by omega)]
  rfl

theorem add_any (a b : G) (w : World) :
    Calls Try.prog 51 #[cz a, cz b] w fun e w' => e = .returned (cz (gadd a b)) ∧ w = w' := by
  have h := add_run a b
  have h1 := a.re.isLt
  have h2 := b.re.isLt
  have h3 := a.im.isLt
  have h4 := b.im.isLt
  have hr := fun w => reduced_fl (a.re.val + b.re.val) (a.im.val + b.im.val) (by omega) (by omega) w
  rw [gI_add] at hr
  generalize cz a = x at *
  generalize cz b = y at *
  go_enter Try.func51, Try.ntmps51
  go_wp2_with fail
  refine (hr _).mono ?_
  rintro e w' ⟨rfl, rfl⟩
  go_wp2
  go_ret
  exact ⟨rfl, rfl⟩

theorem mul_any (a b : G) (w : World) :
    Calls Try.prog 52 #[cz a, cz b] w fun e w' => e = .returned (cz (gmul a b)) ∧ w = w' := by
  have h := mul_run a b
  have h1 := prod_le a.re b.re
  have h2 := prod_le a.im b.im
  have h3 := prod_le a.re b.im
  have h4 := prod_le a.im b.re
  have hr := fun w => reduced_fl ((a.re.val : Int) * b.re.val - a.im.val * b.im.val) ((a.re.val : Int) * b.im.val + a.im.val * b.re.val) (by omega) (by omega) w
  rw [gI_mul] at hr
  generalize cz a = x at *
  generalize cz b = y at *
  go_enter Try.func52, Try.ntmps52
  go_wp2_with fail
  refine (hr _).mono ?_
  rintro e w' ⟨rfl, rfl⟩
  go_wp2
  go_ret
  exact ⟨rfl, rfl⟩

end Go.Proofs.Ytmknemaocbbpeaa
