/-
  SpA: Units of spans: the program's size, upTo, Days, After, Add, and the document's Unit, Days, After, Add (layer 15), over the loaded program: each one's contract. No condition but that a number is an int.
  SpB: Numbers told in digits: the program's number and the document's Number of at most seven digits (layer 15), over the loaded program: each one's contract. No condition.
-/
import Derived.Test.YthindhlogkhclaaGreatDoorSpM
import Derived.Test.YthindhlogkhclaaGreatDoorPz07
import Derived.Test.YthindhlogkhclaaGreatDoorPz06
import Derived.Lib.Hide
import Derived.Test.YthindhlogkhclaaGreatDoorPz08
set_option linter.unusedVariables false
set_option maxRecDepth 100000
namespace Go.Proofs.YthindhlogkhclaaGreatDoor
section
open Go.RowKit
theorem size15_any (c : UInt8) (w : World) :
    Calls Tryz.prog 52 #[.int .u8 (c.toNat : Int)] w fun e w' => e = .returned (.int .i64 (unitD c.toNat : Int)) ∧ w = w' := by
  generalize c.toNat = n
  by_cases h1 : n = 121
  · subst h1
    go_enter Tryz.func52, Tryz.ntmps52
    go_wp2
    go_ret
    exact ⟨rfl, rfl⟩
  by_cases h2 : n = 109
  · subst h2
    go_enter Tryz.func52, Tryz.ntmps52
    go_wp2
    go_ret
    exact ⟨rfl, rfl⟩
  by_cases h3 : n = 119
  · subst h3
    go_enter Tryz.func52, Tryz.ntmps52
    go_wp2
    go_ret
    exact ⟨rfl, rfl⟩
  by_cases h4 : n = 100
  · subst h4
    go_enter Tryz.func52, Tryz.ntmps52
    go_wp2
    go_ret
    exact ⟨rfl, rfl⟩
  have e : unitD n = 0 := by unfold unitD; rw [if_neg h4, if_neg h3, if_neg h2, if_neg h1]
  rw [e]
  have a1 : ¬ ((n : Int) = 121) := by omega
  have a2 : ¬ ((n : Int) = 109) := by omega
  have a3 : ¬ ((n : Int) = 119) := by omega
  have a4 : ¬ ((n : Int) = 100) := by omega
  clear h1 h2 h3 h4 e
  go_enter Tryz.func52, Tryz.ntmps52
  go_wp2
  go_ret
  exact ⟨rfl, rfl⟩
theorem unit15_any (c : UInt8) (w : World) :
    Calls Tryz.prog 90 #[.int .u8 (c.toNat : Int)] w fun e w' => e = .returned (.int .i64 (unitD c.toNat : Int)) ∧ w = w' := by
  generalize c.toNat = n
  by_cases h1 : n = 121
  · subst h1
    go_enter Tryz.func90, Tryz.ntmps90
    go_wp2
    go_ret
    exact ⟨rfl, rfl⟩
  by_cases h2 : n = 109
  · subst h2
    go_enter Tryz.func90, Tryz.ntmps90
    go_wp2
    go_ret
    exact ⟨rfl, rfl⟩
  by_cases h3 : n = 119
  · subst h3
    go_enter Tryz.func90, Tryz.ntmps90
    go_wp2
    go_ret
    exact ⟨rfl, rfl⟩
  by_cases h4 : n = 100
  · subst h4
    go_enter Tryz.func90, Tryz.ntmps90
    go_wp2
    go_ret
    exact ⟨rfl, rfl⟩
  have e : unitD n = 0 := by unfold unitD; rw [if_neg h4, if_neg h3, if_neg h2, if_neg h1]
  rw [e]
  have a1 : ¬ ((n : Int) = 121) := by omega
  have a2 : ¬ ((n : Int) = 109) := by omega
  have a3 : ¬ ((n : Int) = 119) := by omega
  have a4 : ¬ ((n : Int) = 100) := by omega
  clear h1 h2 h3 h4 e
  go_enter Tryz.func90, Tryz.ntmps90
  go_wp2
  go_ret
  exact ⟨rfl, rfl⟩
theorem days_1 (n : Int) (c : Nat) (hu : unitD c = 1) :
    (if n < 0 then Value.tuple #[.int .i64 0, .int .i64 1] else if 1048576 < n then .tuple #[.int .i64 0, .int .i64 16] else .tuple #[.int .i64 (n), .int .i64 0]) = .tuple #[.int .i64 (daysD n c).1, .int .i64 (daysD n c).2] := by
  unfold daysD
  rw [hu]
  have e : (1048576 : Int) / ((1 : Nat) : Int) = 1048576 := rfl
  have e2 : n * ((1 : Nat) : Int) = n := Int.mul_one n
  rw [e, e2]
  by_cases h0 : n < 0
  · rw [if_pos h0, if_pos (.inl h0)]
  · have hno : ¬ (n < 0 ∨ 1 = 0) := by omega
    rw [if_neg h0, if_neg hno]
    by_cases h1 : 1048576 < n
    · rw [if_pos h1, if_pos h1]
    · rw [if_neg h1, if_neg h1]
theorem days_7 (n : Int) (c : Nat) (hu : unitD c = 7) :
    (if n < 0 then Value.tuple #[.int .i64 0, .int .i64 1] else if 149796 < n then .tuple #[.int .i64 0, .int .i64 16] else .tuple #[.int .i64 (n * 7), .int .i64 0]) = .tuple #[.int .i64 (daysD n c).1, .int .i64 (daysD n c).2] := by
  unfold daysD
  rw [hu]
  have e : (1048576 : Int) / ((7 : Nat) : Int) = 149796 := rfl
  have e2 : n * ((7 : Nat) : Int) = n * 7 := rfl
  rw [e, e2]
  by_cases h0 : n < 0
  · rw [if_pos h0, if_pos (.inl h0)]
  · have hno : ¬ (n < 0 ∨ 7 = 0) := by omega
    rw [if_neg h0, if_neg hno]
    by_cases h1 : 149796 < n
    · rw [if_pos h1, if_pos h1]
    · rw [if_neg h1, if_neg h1]
theorem days_30 (n : Int) (c : Nat) (hu : unitD c = 30) :
    (if n < 0 then Value.tuple #[.int .i64 0, .int .i64 1] else if 34952 < n then .tuple #[.int .i64 0, .int .i64 16] else .tuple #[.int .i64 (n * 30), .int .i64 0]) = .tuple #[.int .i64 (daysD n c).1, .int .i64 (daysD n c).2] := by
  unfold daysD
  rw [hu]
  have e : (1048576 : Int) / ((30 : Nat) : Int) = 34952 := rfl
  have e2 : n * ((30 : Nat) : Int) = n * 30 := rfl
  rw [e, e2]
  by_cases h0 : n < 0
  · rw [if_pos h0, if_pos (.inl h0)]
  · have hno : ¬ (n < 0 ∨ 30 = 0) := by omega
    rw [if_neg h0, if_neg hno]
    by_cases h1 : 34952 < n
    · rw [if_pos h1, if_pos h1]
    · rw [if_neg h1, if_neg h1]
theorem days_365 (n : Int) (c : Nat) (hu : unitD c = 365) :
    (if n < 0 then Value.tuple #[.int .i64 0, .int .i64 1] else if 2872 < n then .tuple #[.int .i64 0, .int .i64 16] else .tuple #[.int .i64 (n * 365), .int .i64 0]) = .tuple #[.int .i64 (daysD n c).1, .int .i64 (daysD n c).2] := by
  unfold daysD
  rw [hu]
  have e : (1048576 : Int) / ((365 : Nat) : Int) = 2872 := rfl
  have e2 : n * ((365 : Nat) : Int) = n * 365 := rfl
  rw [e, e2]
  by_cases h0 : n < 0
  · rw [if_pos h0, if_pos (.inl h0)]
  · have hno : ¬ (n < 0 ∨ 365 = 0) := by omega
    rw [if_neg h0, if_neg hno]
    by_cases h1 : 2872 < n
    · rw [if_pos h1, if_pos h1]
    · rw [if_neg h1, if_neg h1]
theorem days15_0 (n : Int) (hn : I64 n) (c : Int) (w : World) (hs : ∀ w, Calls Tryz.prog 52 #[.int .u8 c] w fun e w' => e = .returned (.int .i64 0) ∧ w = w') :
    Calls Tryz.prog 54 #[.int .i64 n, .int .u8 c] w fun e w' => e = .returned (.tuple #[.int .i64 0, .int .i64 1]) ∧ w = w' := by
  obtain ⟨n0, n1⟩ := hn
  by_cases h0 : n < 0
  · go_enter Tryz.func54, Tryz.ntmps54
    go_wp2_with (go_at_call 52; refine (hs _).mono ?_; rintro e w' ⟨rfl, rfl⟩)
    go_ret2
    exact ⟨rfl, rfl⟩
  · go_enter Tryz.func54, Tryz.ntmps54
    go_wp2_with (go_at_call 52; refine (hs _).mono ?_; rintro e w' ⟨rfl, rfl⟩)
    go_ret2
    exact ⟨rfl, rfl⟩
theorem days15_1 (n : Int) (hn : I64 n) (c : Int) (w : World) (hs : ∀ w, Calls Tryz.prog 52 #[.int .u8 c] w fun e w' => e = .returned (.int .i64 1) ∧ w = w') :
    Calls Tryz.prog 54 #[.int .i64 n, .int .u8 c] w fun e w' => e = .returned (if n < 0 then .tuple #[.int .i64 0, .int .i64 1] else if 1048576 < n then .tuple #[.int .i64 0, .int .i64 16] else .tuple #[.int .i64 (n), .int .i64 0]) ∧ w = w' := by
  obtain ⟨n0, n1⟩ := hn
  have eq1 : Int.tdiv 1048576 1 = 1048576 := by decide
  by_cases h0 : n < 0
  · rw [if_pos h0]
    go_enter Tryz.func54, Tryz.ntmps54
    go_wp2_with (go_at_call 52; refine (hs _).mono ?_; rintro e w' ⟨rfl, rfl⟩)
    go_ret2
    exact ⟨rfl, rfl⟩
  · rw [if_neg h0]
    by_cases hb : 1048576 < n
    · rw [if_pos hb]
      go_enter Tryz.func54, Tryz.ntmps54
      go_wp2_with (go_at_call 52; refine (hs _).mono ?_; rintro e w' ⟨rfl, rfl⟩)
      go_ret2
      exact ⟨rfl, rfl⟩
    · rw [if_neg hb]
      go_enter Tryz.func54, Tryz.ntmps54
      go_wp2_with (go_at_call 52; refine (hs _).mono ?_; rintro e w' ⟨rfl, rfl⟩)
      go_ret2
      exact ⟨rfl, rfl⟩
theorem days15_7 (n : Int) (hn : I64 n) (c : Int) (w : World) (hs : ∀ w, Calls Tryz.prog 52 #[.int .u8 c] w fun e w' => e = .returned (.int .i64 7) ∧ w = w') :
    Calls Tryz.prog 54 #[.int .i64 n, .int .u8 c] w fun e w' => e = .returned (if n < 0 then .tuple #[.int .i64 0, .int .i64 1] else if 149796 < n then .tuple #[.int .i64 0, .int .i64 16] else .tuple #[.int .i64 (n * 7), .int .i64 0]) ∧ w = w' := by
  obtain ⟨n0, n1⟩ := hn
  have eq1 : Int.tdiv 1048576 7 = 149796 := by decide
  by_cases h0 : n < 0
  · rw [if_pos h0]
    go_enter Tryz.func54, Tryz.ntmps54
    go_wp2_with (go_at_call 52; refine (hs _).mono ?_; rintro e w' ⟨rfl, rfl⟩)
    go_ret2
    exact ⟨rfl, rfl⟩
  · rw [if_neg h0]
    by_cases hb : 149796 < n
    · rw [if_pos hb]
      go_enter Tryz.func54, Tryz.ntmps54
      go_wp2_with (go_at_call 52; refine (hs _).mono ?_; rintro e w' ⟨rfl, rfl⟩)
      go_ret2
      exact ⟨rfl, rfl⟩
    · rw [if_neg hb]
      go_enter Tryz.func54, Tryz.ntmps54
      go_wp2_with (go_at_call 52; refine (hs _).mono ?_; rintro e w' ⟨rfl, rfl⟩)
      go_ret2
      exact ⟨rfl, rfl⟩
theorem days15_30 (n : Int) (hn : I64 n) (c : Int) (w : World) (hs : ∀ w, Calls Tryz.prog 52 #[.int .u8 c] w fun e w' => e = .returned (.int .i64 30) ∧ w = w') :
    Calls Tryz.prog 54 #[.int .i64 n, .int .u8 c] w fun e w' => e = .returned (if n < 0 then .tuple #[.int .i64 0, .int .i64 1] else if 34952 < n then .tuple #[.int .i64 0, .int .i64 16] else .tuple #[.int .i64 (n * 30), .int .i64 0]) ∧ w = w' := by
  obtain ⟨n0, n1⟩ := hn
  have eq1 : Int.tdiv 1048576 30 = 34952 := by decide
  by_cases h0 : n < 0
  · rw [if_pos h0]
    go_enter Tryz.func54, Tryz.ntmps54
    go_wp2_with (go_at_call 52; refine (hs _).mono ?_; rintro e w' ⟨rfl, rfl⟩)
    go_ret2
    exact ⟨rfl, rfl⟩
  · rw [if_neg h0]
    by_cases hb : 34952 < n
    · rw [if_pos hb]
      go_enter Tryz.func54, Tryz.ntmps54
      go_wp2_with (go_at_call 52; refine (hs _).mono ?_; rintro e w' ⟨rfl, rfl⟩)
      go_ret2
      exact ⟨rfl, rfl⟩
    · rw [if_neg hb]
      go_enter Tryz.func54, Tryz.ntmps54
      go_wp2_with (go_at_call 52; refine (hs _).mono ?_; rintro e w' ⟨rfl, rfl⟩)
      go_ret2
      exact ⟨rfl, rfl⟩
theorem days15_365 (n : Int) (hn : I64 n) (c : Int) (w : World) (hs : ∀ w, Calls Tryz.prog 52 #[.int .u8 c] w fun e w' => e = .returned (.int .i64 365) ∧ w = w') :
    Calls Tryz.prog 54 #[.int .i64 n, .int .u8 c] w fun e w' => e = .returned (if n < 0 then .tuple #[.int .i64 0, .int .i64 1] else if 2872 < n then .tuple #[.int .i64 0, .int .i64 16] else .tuple #[.int .i64 (n * 365), .int .i64 0]) ∧ w = w' := by
  obtain ⟨n0, n1⟩ := hn
  have eq1 : Int.tdiv 1048576 365 = 2872 := by decide
  by_cases h0 : n < 0
  · rw [if_pos h0]
    go_enter Tryz.func54, Tryz.ntmps54
    go_wp2_with (go_at_call 52; refine (hs _).mono ?_; rintro e w' ⟨rfl, rfl⟩)
    go_ret2
    exact ⟨rfl, rfl⟩
  · rw [if_neg h0]
    by_cases hb : 2872 < n
    · rw [if_pos hb]
      go_enter Tryz.func54, Tryz.ntmps54
      go_wp2_with (go_at_call 52; refine (hs _).mono ?_; rintro e w' ⟨rfl, rfl⟩)
      go_ret2
      exact ⟨rfl, rfl⟩
    · rw [if_neg hb]
      go_enter Tryz.func54, Tryz.ntmps54
      go_wp2_with (go_at_call 52; refine (hs _).mono ?_; rintro e w' ⟨rfl, rfl⟩)
      go_ret2
      exact ⟨rfl, rfl⟩
theorem days15_any (n : Int) (hn : I64 n) (c : UInt8) (w : World) :
    Calls Tryz.prog 54 #[.int .i64 n, .int .u8 (c.toNat : Int)] w fun e w' => e = .returned (.tuple #[.int .i64 (daysD n c.toNat).1, .int .i64 (daysD n c.toNat).2]) ∧ w = w' := by
  have hs := size15_any c
  rcases unit_cases c.toNat with hu | ⟨_, hu⟩ | ⟨_, hu⟩ | ⟨_, hu⟩ | ⟨_, hu⟩
  all_goals rw [hu] at hs
  · refine (days15_0 n hn _ w hs).mono ?_
    rintro e w' ⟨rfl, rfl⟩
    unfold daysD
    rw [if_pos (.inr hu)]
    exact ⟨rfl, rfl⟩
  · refine (days15_1 n hn _ w hs).mono ?_
    rintro e w' ⟨rfl, rfl⟩
    refine ⟨congrArg _ ?_, rfl⟩
    exact days_1 n _ hu
  · refine (days15_7 n hn _ w hs).mono ?_
    rintro e w' ⟨rfl, rfl⟩
    refine ⟨congrArg _ ?_, rfl⟩
    exact days_7 n _ hu
  · refine (days15_30 n hn _ w hs).mono ?_
    rintro e w' ⟨rfl, rfl⟩
    refine ⟨congrArg _ ?_, rfl⟩
    exact days_30 n _ hu
  · refine (days15_365 n hn _ w hs).mono ?_
    rintro e w' ⟨rfl, rfl⟩
    refine ⟨congrArg _ ?_, rfl⟩
    exact days_365 n _ hu
theorem rdays15_0 (n : Int) (hn : I64 n) (c : Int) (w : World) (hs : ∀ w, Calls Tryz.prog 90 #[.int .u8 c] w fun e w' => e = .returned (.int .i64 0) ∧ w = w') :
    Calls Tryz.prog 92 #[.int .i64 n, .int .u8 c] w fun e w' => e = .returned (.tuple #[.int .i64 0, .int .i64 1]) ∧ w = w' := by
  obtain ⟨n0, n1⟩ := hn
  by_cases h0 : n < 0
  · go_enter Tryz.func92, Tryz.ntmps92
    go_wp2_with (go_at_call 90; refine (hs _).mono ?_; rintro e w' ⟨rfl, rfl⟩)
    go_ret2
    exact ⟨rfl, rfl⟩
  · go_enter Tryz.func92, Tryz.ntmps92
    go_wp2_with (go_at_call 90; refine (hs _).mono ?_; rintro e w' ⟨rfl, rfl⟩)
    go_ret2
    exact ⟨rfl, rfl⟩
theorem rdays15_1 (n : Int) (hn : I64 n) (c : Int) (w : World) (hs : ∀ w, Calls Tryz.prog 90 #[.int .u8 c] w fun e w' => e = .returned (.int .i64 1) ∧ w = w') :
    Calls Tryz.prog 92 #[.int .i64 n, .int .u8 c] w fun e w' => e = .returned (if n < 0 then .tuple #[.int .i64 0, .int .i64 1] else if 1048576 < n then .tuple #[.int .i64 0, .int .i64 16] else .tuple #[.int .i64 (n), .int .i64 0]) ∧ w = w' := by
  obtain ⟨n0, n1⟩ := hn
  have eq1 : Int.tdiv 1048576 1 = 1048576 := by decide
  by_cases h0 : n < 0
  · rw [if_pos h0]
    go_enter Tryz.func92, Tryz.ntmps92
    go_wp2_with (go_at_call 90; refine (hs _).mono ?_; rintro e w' ⟨rfl, rfl⟩)
    go_ret2
    exact ⟨rfl, rfl⟩
  · rw [if_neg h0]
    by_cases hb : 1048576 < n
    · rw [if_pos hb]
      go_enter Tryz.func92, Tryz.ntmps92
      go_wp2_with (go_at_call 90; refine (hs _).mono ?_; rintro e w' ⟨rfl, rfl⟩)
      go_ret2
      exact ⟨rfl, rfl⟩
    · rw [if_neg hb]
      go_enter Tryz.func92, Tryz.ntmps92
      go_wp2_with (go_at_call 90; refine (hs _).mono ?_; rintro e w' ⟨rfl, rfl⟩)
      go_ret2
      exact ⟨rfl, rfl⟩
theorem rdays15_7 (n : Int) (hn : I64 n) (c : Int) (w : World) (hs : ∀ w, Calls Tryz.prog 90 #[.int .u8 c] w fun e w' => e = .returned (.int .i64 7) ∧ w = w') :
    Calls Tryz.prog 92 #[.int .i64 n, .int .u8 c] w fun e w' => e = .returned (if n < 0 then .tuple #[.int .i64 0, .int .i64 1] else if 149796 < n then .tuple #[.int .i64 0, .int .i64 16] else .tuple #[.int .i64 (n * 7), .int .i64 0]) ∧ w = w' := by
  obtain ⟨n0, n1⟩ := hn
  have eq1 : Int.tdiv 1048576 7 = 149796 := by decide
  by_cases h0 : n < 0
  · rw [if_pos h0]
    go_enter Tryz.func92, Tryz.ntmps92
    go_wp2_with (go_at_call 90; refine (hs _).mono ?_; rintro e w' ⟨rfl, rfl⟩)
    go_ret2
    exact ⟨rfl, rfl⟩
  · rw [if_neg h0]
    by_cases hb : 149796 < n
    · rw [if_pos hb]
      go_enter Tryz.func92, Tryz.ntmps92
      go_wp2_with (go_at_call 90; refine (hs _).mono ?_; rintro e w' ⟨rfl, rfl⟩)
      go_ret2
      exact ⟨rfl, rfl⟩
    · rw [if_neg hb]
      go_enter Tryz.func92, Tryz.ntmps92
      go_wp2_with (go_at_call 90; refine (hs _).mono ?_; rintro e w' ⟨rfl, rfl⟩)
      go_ret2
      exact ⟨rfl, rfl⟩
theorem rdays15_30 (n : Int) (hn : I64 n) (c : Int) (w : World) (hs : ∀ w, Calls Tryz.prog 90 #[.int .u8 c] w fun e w' => e = .returned (.int .i64 30) ∧ w = w') :
    Calls Tryz.prog 92 #[.int .i64 n, .int .u8 c] w fun e w' => e = .returned (if n < 0 then .tuple #[.int .i64 0, .int .i64 1] else if 34952 < n then .tuple #[.int .i64 0, .int .i64 16] else .tuple #[.int .i64 (n * 30), .int .i64 0]) ∧ w = w' := by
  obtain ⟨n0, n1⟩ := hn
  have eq1 : Int.tdiv 1048576 30 = 34952 := by decide
  by_cases h0 : n < 0
  · rw [if_pos h0]
    go_enter Tryz.func92, Tryz.ntmps92
    go_wp2_with (go_at_call 90; refine (hs _).mono ?_; rintro e w' ⟨rfl, rfl⟩)
    go_ret2
    exact ⟨rfl, rfl⟩
  · rw [if_neg h0]
    by_cases hb : 34952 < n
    · rw [if_pos hb]
      go_enter Tryz.func92, Tryz.ntmps92
      go_wp2_with (go_at_call 90; refine (hs _).mono ?_; rintro e w' ⟨rfl, rfl⟩)
      go_ret2
      exact ⟨rfl, rfl⟩
    · rw [if_neg hb]
      go_enter Tryz.func92, Tryz.ntmps92
      go_wp2_with (go_at_call 90; refine (hs _).mono ?_; rintro e w' ⟨rfl, rfl⟩)
      go_ret2
      exact ⟨rfl, rfl⟩
theorem rdays15_365 (n : Int) (hn : I64 n) (c : Int) (w : World) (hs : ∀ w, Calls Tryz.prog 90 #[.int .u8 c] w fun e w' => e = .returned (.int .i64 365) ∧ w = w') :
    Calls Tryz.prog 92 #[.int .i64 n, .int .u8 c] w fun e w' => e = .returned (if n < 0 then .tuple #[.int .i64 0, .int .i64 1] else if 2872 < n then .tuple #[.int .i64 0, .int .i64 16] else .tuple #[.int .i64 (n * 365), .int .i64 0]) ∧ w = w' := by
  obtain ⟨n0, n1⟩ := hn
  have eq1 : Int.tdiv 1048576 365 = 2872 := by decide
  by_cases h0 : n < 0
  · rw [if_pos h0]
    go_enter Tryz.func92, Tryz.ntmps92
    go_wp2_with (go_at_call 90; refine (hs _).mono ?_; rintro e w' ⟨rfl, rfl⟩)
    go_ret2
    exact ⟨rfl, rfl⟩
  · rw [if_neg h0]
    by_cases hb : 2872 < n
    · rw [if_pos hb]
      go_enter Tryz.func92, Tryz.ntmps92
      go_wp2_with (go_at_call 90; refine (hs _).mono ?_; rintro e w' ⟨rfl, rfl⟩)
      go_ret2
      exact ⟨rfl, rfl⟩
    · rw [if_neg hb]
      go_enter Tryz.func92, Tryz.ntmps92
      go_wp2_with (go_at_call 90; refine (hs _).mono ?_; rintro e w' ⟨rfl, rfl⟩)
      go_ret2
      exact ⟨rfl, rfl⟩
theorem rdays15_any (n : Int) (hn : I64 n) (c : UInt8) (w : World) :
    Calls Tryz.prog 92 #[.int .i64 n, .int .u8 (c.toNat : Int)] w fun e w' => e = .returned (.tuple #[.int .i64 (daysD n c.toNat).1, .int .i64 (daysD n c.toNat).2]) ∧ w = w' := by
  have hs := unit15_any c
  rcases unit_cases c.toNat with hu | ⟨_, hu⟩ | ⟨_, hu⟩ | ⟨_, hu⟩ | ⟨_, hu⟩
  all_goals rw [hu] at hs
  · refine (rdays15_0 n hn _ w hs).mono ?_
    rintro e w' ⟨rfl, rfl⟩
    unfold daysD
    rw [if_pos (.inr hu)]
    exact ⟨rfl, rfl⟩
  · refine (rdays15_1 n hn _ w hs).mono ?_
    rintro e w' ⟨rfl, rfl⟩
    refine ⟨congrArg _ ?_, rfl⟩
    exact days_1 n _ hu
  · refine (rdays15_7 n hn _ w hs).mono ?_
    rintro e w' ⟨rfl, rfl⟩
    refine ⟨congrArg _ ?_, rfl⟩
    exact days_7 n _ hu
  · refine (rdays15_30 n hn _ w hs).mono ?_
    rintro e w' ⟨rfl, rfl⟩
    refine ⟨congrArg _ ?_, rfl⟩
    exact days_30 n _ hu
  · refine (rdays15_365 n hn _ w hs).mono ?_
    rintro e w' ⟨rfl, rfl⟩
    refine ⟨congrArg _ ?_, rfl⟩
    exact days_365 n _ hu
end
section
open Go.RowKit
theorem numF_step {l : List UInt8} {k m : Nat} {x : UInt8} (hx : l[k]? = some x) (h0 : 48 ≤ x.toNat) (h1 : x.toNat ≤ 57) : numF m (l.drop k) = numF (10 * m + (x.toNat - 48)) (l.drop (k + 1)) := by
  obtain ⟨hk, rfl⟩ := List.getElem?_eq_some_iff.1 hx
  rw [List.drop_eq_getElem_cons hk]
  simp only [numF]
  rw [if_pos ⟨h0, h1⟩]
theorem numF_stop {l : List UInt8} {k m : Nat} {x : UInt8} (hx : l[k]? = some x) (h : ¬ (48 ≤ x.toNat ∧ x.toNat ≤ 57)) : numF m (l.drop k) = none := by
  obtain ⟨hk, rfl⟩ := List.getElem?_eq_some_iff.1 hx
  rw [List.drop_eq_getElem_cons hk]
  simp only [numF]
  rw [if_neg h]
theorem numF_end {l : List UInt8} {k m : Nat} (h : l.length ≤ k) : numF m (l.drop k) = some m := by
  rw [List.drop_of_length_le h]; rfl
theorem ten_six {k m : Nat} (hk : k ≤ 6) (hm : m < 10 ^ k) : m < 1000000 :=
  Nat.lt_of_lt_of_le hm (by have := Nat.pow_le_pow_right (n := 10) (by decide) hk; simpa using this)
theorem ten_step {k m d : Nat} (hm : m < 10 ^ k) (hd : d < 10) : 10 * m + d < 10 ^ (k + 1) := by
  rw [Nat.pow_succ]; omega
set_option maxHeartbeats 2000000 in
theorem number15_any (l : List UInt8) (hl : l.length ≤ maxLen) (w : World) :
    Calls Tryz.prog 53 #[strV l] w fun e w' => e = .returned (.tuple #[.int .i64 (((numD l).getD 0 : Nat) : Int), .bool (numD l).isSome]) ∧ w = w' := by
  have hs : ((⟨l.toArray⟩ : ByteArray).size : Int) = (l.length : Int) := rfl
  have hml : l.length ≤ 9223372036854775807 := by unfold maxLen at hl; omega
  unfold strV
  by_cases q1 : l.length < 1
  · have e : numD l = none := by unfold numD; rw [if_pos (.inl q1)]
    rw [e]
    clear hl
    go_enter Tryz.func53, Tryz.ntmps53
    go_wp2
    go_ret2
    exact ⟨rfl, rfl⟩
  by_cases q2 : 7 < l.length
  · have e : numD l = none := by unfold numD; rw [if_pos (.inr (.inl q2))]
    rw [e]
    clear hl
    go_enter Tryz.func53, Tryz.ntmps53
    go_wp2
    go_ret2
    exact ⟨rfl, rfl⟩
  obtain ⟨x, hx⟩ : ∃ x, l[0]? = some x := ⟨_, List.getElem?_eq_getElem (by omega)⟩
  have hh : l.head? = some x := by rw [List.head?_eq_getElem?]; exact hx
  have hix := txt_at l 0 x hx
  simp only [Int.natCast_zero] at hix
  by_cases q3 : x = 48 ∧ 1 < l.length
  · have e : numD l = none := by unfold numD; rw [if_pos (.inr (.inr ⟨by rw [hh, q3.1], q3.2⟩))]
    rw [e]
    obtain ⟨q3, q4⟩ := q3
    subst q3
    clear hl hh hx e
    go_enter Tryz.func53, Tryz.ntmps53
    go_wp2
    go_ret2
    exact ⟨rfl, rfl⟩
  have hone : ¬ (x = 48 ∧ 1 < l.length) := q3
  have e : numD l = numF 0 l := by
    unfold numD
    rw [if_neg]
    rintro (a | a | ⟨a, b⟩)
    · exact q1 a
    · exact q2 a
    · rw [hh] at a
      exact q3 ⟨Option.some.inj a, b⟩
  rw [e]
  obtain ⟨r, hr⟩ : ∃ r, r = numF 0 l := ⟨_, rfl⟩
  rw [← hr]
  have HR := Lib.hid hr
  have HAT := Lib.hid (txt_at l)
  have hx0 := x.toNat_lt
  have hq : (x.toNat = 48 ∧ ¬ 1 < l.length) ∨ x.toNat ≠ 48 := by
    by_cases hc : x.toNat = 48
    · exact .inl ⟨hc, fun h => q3 ⟨UInt8.toNat.inj (by rw [hc]; rfl), h⟩⟩
    · exact .inr hc
  generalize x.toNat = c at hix hx0 hq
  clear q3 hone e hr hh hx
  obtain ⟨s, hse⟩ : ∃ s : ByteArray, s = ⟨l.toArray⟩ := ⟨_, rfl⟩
  rw [← hse] at hs hix HAT ⊢
  clear hse hl
  rcases hq with ⟨rfl, q4⟩ | q4
  all_goals
    go_enter Tryz.func53, Tryz.ntmps53
    go_wp2
    go_loop [4, 26] (fun n i => ∃ (k m : Nat), k ≤ l.length ∧ i = .int .i64 k ∧ n = .int .i64 m ∧ Hid (numF 0 l = numF m (l.drop k)) ∧ Hid (m < 10 ^ k)) (fun _ i => l.length - (intOf i).toNat)
    case atStart => exact ⟨0, 0, by omega, rfl, rfl, rfl, Nat.one_pos⟩
    case round =>
      clear hix
      obtain ⟨k, m, hk, rfl, rfl, ha, hm⟩ := hrel
      by_cases hlt : k < l.length
      · obtain ⟨y, hy⟩ : ∃ y, l[k]? = some y := ⟨_, List.getElem?_eq_getElem hlt⟩
        have hiy := HAT.out k y hy
        have hyl := y.toNat_lt
        have HST := Lib.hid (numF_step (m := m) hy)
        have HSO := Lib.hid (numF_stop (m := m) hy)
        have hm6 := ten_six (by omega) hm.out
        generalize y.toNat = d at hiy hyl HST HSO
        clear hy HAT
        by_cases b1 : d < 48
        · have e0 : r = none := by rw [HR.out, ha.out, HSO.out (by omega)]
          subst e0
          clear ha HST HSO HR hm
          go_wp2
          go_ret2
          exact ⟨rfl, rfl⟩
        by_cases b2 : 57 < d
        · have e0 : r = none := by rw [HR.out, ha.out, HSO.out (by omega)]
          subst e0
          clear ha HST HSO HR hm
          go_wp2
          go_ret2
          exact ⟨rfl, rfl⟩
        · have hn := Lib.hid (ha.out.trans (HST.out (by omega) (by omega)))
          have hm2 := Lib.hid (ten_step (d := d - 48) hm.out (by omega))
          obtain ⟨z, hz⟩ : ∃ z, z = d - 48 := ⟨_, rfl⟩
          rw [← hz] at hn hm2
          have ez : IntKind.u8.wrap ((d : Int) - 48) = (z : Int) := by rw [IntKind.wrap_u8]; omega
          clear ha HST HSO HR hm
          go_wp2
          go_round
          case rel => exact ⟨k + 1, 10 * m + z, by omega, by go_num, by go_num, hn, hm2⟩
          case measure => simp [intOf]; omega
      · have e0 : r = some m := by rw [HR.out, ha.out, numF_end (by omega)]
        subst e0
        clear ha HR hm HAT
        go_wp2
        go_ret2
        exact ⟨rfl, rfl⟩
end
end Go.Proofs.YthindhlogkhclaaGreatDoor
