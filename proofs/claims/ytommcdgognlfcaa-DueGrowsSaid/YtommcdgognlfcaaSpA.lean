/-
  Units of spans: the program's size, upTo, Days, After, Add, and the document's Unit, Days, After, Add (layer 15), over the loaded program: each one's contract. No condition but that a number is an int.
-/
import Derived.Test.YtommcdgognlfcaaSpM
import Derived.Test.YtommcdgognlfcaaBase
import Derived.Test.YtommcdgognlfcaaKp
import Derived.Lib.Hide
namespace Go.Proofs.Ytommcdgognlfcaa
open Go.RowKit
set_option maxRecDepth 100000
set_option linter.unusedVariables false
/-- upTo. -/
theorem upTo_any (n m : Int) (w : World) :
    Calls Try.prog 38 #[.int .i64 n, .int .i64 m] w fun e w' => e = .returned (.bool (decide (0 ≤ n ∧ n ≤ m))) ∧ w = w' := by
  by_cases h1 : 0 ≤ n
  · by_cases h2 : n ≤ m
    · rw [decide_eq_true (by omega)]
      go_enter Try.func38, Try.ntmps38
      go_wp2
      go_ret
      exact ⟨rfl, rfl⟩
    · rw [decide_eq_false (by omega)]
      go_enter Try.func38, Try.ntmps38
      go_wp2
      go_ret
      exact ⟨rfl, rfl⟩
  · rw [decide_eq_false (by omega)]
    go_enter Try.func38, Try.ntmps38
    go_wp2
    go_ret
    exact ⟨rfl, rfl⟩

theorem days_1 (n : Int) (c : Nat) (hu : unitD c = 1) :
    (if n < 0 then Value.tuple #[.int .i64 0, .int .i64 1] else if 1048576 < n then .tuple #[.int .i64 0, .int .i64 16] else .tuple #[.int .i64 (n), .int .i64 0]) = .tuple #[.int .i64 (daysD n c).1, .int .i64 (daysD n c).2] := by
  unfold daysD
  rw [hu]
  have e : (1048576 : Int) / ((1 : Nat) : Int) = 1048576 := rfl
  have e2 : n * ((1 : Nat) : Int) = n := Int.mul_one n
  rw [e, e2]
  by_cases h0 : n < 0
  · rw [if_pos h0, if_pos (.inl h0)]
  · have hno : ¬ (n < 0 ∨ 1 = 0) := by omega
    rw [if_neg h0, if_neg hno]
    by_cases h1 : 1048576 < n
    · rw [if_pos h1, if_pos h1]
    · rw [if_neg h1, if_neg h1]
theorem days_7 (n : Int) (c : Nat) (hu : unitD c = 7) :
    (if n < 0 then Value.tuple #[.int .i64 0, .int .i64 1] else if 149796 < n then .tuple #[.int .i64 0, .int .i64 16] else .tuple #[.int .i64 (n * 7), .int .i64 0]) = .tuple #[.int .i64 (daysD n c).1, .int .i64 (daysD n c).2] := by
  unfold daysD
  rw [hu]
  have e : (1048576 : Int) / ((7 : Nat) : Int) = 149796 := rfl
  have e2 : n * ((7 : Nat) : Int) = n * 7 := rfl
  rw [e, e2]
  by_cases h0 : n < 0
  · rw [if_pos h0, if_pos (.inl h0)]
  · have hno : ¬ (n < 0 ∨ 7 = 0) := by omega
    rw [if_neg h0, if_neg hno]
    by_cases h1 : 149796 < n
    · rw [if_pos h1, if_pos h1]
    · rw [if_neg h1, if_neg h1]
theorem days_30 (n : Int) (c : Nat) (hu : unitD c = 30) :
    (if n < 0 then Value.tuple #[.int .i64 0, .int .i64 1] else if 34952 < n then .tuple #[.int .i64 0, .int .i64 16] else .tuple #[.int .i64 (n * 30), .int .i64 0]) = .tuple #[.int .i64 (daysD n c).1, .int .i64 (daysD n c).2] := by
  unfold daysD
  rw [hu]
  have e : (1048576 : Int) / ((30 : Nat) : Int) = 34952 := rfl
  have e2 : n * ((30 : Nat) : Int) = n * 30 := rfl
  rw [e, e2]
  by_cases h0 : n < 0
  · rw [if_pos h0, if_pos (.inl h0)]
  · have hno : ¬ (n < 0 ∨ 30 = 0) := by omega
    rw [if_neg h0, if_neg hno]
    by_cases h1 : 34952 < n
    · rw [if_pos h1, if_pos h1]
    · rw [if_neg h1, if_neg h1]
theorem days_365 (n : Int) (c : Nat) (hu : unitD c = 365) :
    (if n < 0 then Value.tuple #[.int .i64 0, .int .i64 1] else if 2872 < n then .tuple #[.int .i64 0, .int .i64 16] else .tuple #[.int .i64 (n * 365), .int .i64 0]) = .tuple #[.int .i64 (daysD n c).1, .int .i64 (daysD n c).2] := by
  unfold daysD
  rw [hu]
  have e : (1048576 : Int) / ((365 : Nat) : Int) = 2872 := rfl
  have e2 : n * ((365 : Nat) : Int) = n * 365 := rfl
  rw [e, e2]
  by_cases h0 : n < 0
  · rw [if_pos h0, if_pos (.inl h0)]
  · have hno : ¬ (n < 0 ∨ 365 = 0) := by omega
    rw [if_neg h0, if_neg hno]
    by_cases h1 : 2872 < n
    · rw [if_pos h1, if_pos h1]
    · rw [if_neg h1, if_neg h1]
/-- After. -/
theorem after15_any (t d : Int) (ht : I64 t) (hd : I64 d) (w : World) :
    Calls Try.prog 31 #[.int .i64 t, .int .i64 d] w fun e w' => e = .returned (.tuple #[.int .i64 (afterD t d).1, .bool (afterD t d).2]) ∧ w = w' := by
  obtain ⟨t0, t1⟩ := ht
  obtain ⟨d0, d1⟩ := hd
  have u1 := upTo_any t 1099511627776
  have u2 := upTo_any d 1048576
  unfold afterD
  by_cases h1 : 0 ≤ t ∧ t ≤ 1099511627776
  · rw [decide_eq_true h1] at u1
    by_cases h2 : 0 ≤ d ∧ d ≤ 1048576
    · rw [decide_eq_true h2] at u2
      by_cases h3 : 1099511627776 < t + d
      · rw [if_pos (by omega)]
        go_enter Try.func31, Try.ntmps31
        go_wp2_with fail
        refine (u1 _).mono ?_
        rintro e w' ⟨rfl, rfl⟩
        go_wp2_with fail
        refine (u2 _).mono ?_
        rintro e w' ⟨rfl, rfl⟩
        go_wp2
        go_ret2
        exact ⟨rfl, rfl⟩
      · rw [if_neg (by omega)]
        go_enter Try.func31, Try.ntmps31
        go_wp2_with fail
        refine (u1 _).mono ?_
        rintro e w' ⟨rfl, rfl⟩
        go_wp2_with fail
        refine (u2 _).mono ?_
        rintro e w' ⟨rfl, rfl⟩
        go_wp2
        go_ret2
        exact ⟨rfl, rfl⟩
    · rw [decide_eq_false h2] at u2
      rw [if_pos (by omega)]
      go_enter Try.func31, Try.ntmps31
      go_wp2_with fail
      refine (u1 _).mono ?_
      rintro e w' ⟨rfl, rfl⟩
      go_wp2_with fail
      refine (u2 _).mono ?_
      rintro e w' ⟨rfl, rfl⟩
      go_wp2
      go_ret2
      exact ⟨rfl, rfl⟩
  · rw [decide_eq_false h1] at u1
    rw [if_pos (by omega)]
    go_enter Try.func31, Try.ntmps31
    go_wp2_with (go_at_call 38; refine (u1 _).mono ?_; rintro e w' ⟨rfl, rfl⟩)
    go_ret2
    exact ⟨rfl, rfl⟩

end Go.Proofs.Ytommcdgognlfcaa
