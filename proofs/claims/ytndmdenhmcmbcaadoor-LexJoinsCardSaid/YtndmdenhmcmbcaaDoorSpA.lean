/-
  Units of spans: the program's size, upTo, Days, After, Add, and the document's Unit, Days, After, Add (layer 15), over the loaded program: each one's contract. No condition but that a number is an int.
-/
import Derived.Test.YtndmdenhmcmbcaaDoorSpM
import Derived.Test.YtndmdenhmcmbcaaDoorBase
import Derived.Test.YtndmdenhmcmbcaaDoorKp
import Derived.Lib.Hide
namespace Go.Proofs.YtndmdenhmcmbcaaDoor
open Go.RowKit
set_option maxRecDepth 100000
set_option linter.unusedVariables false

/-- size. -/
theorem size15_any (c : UInt8) (w : World) :
    Calls Tryd.prog 27 #[.int .u8 (c.toNat : Int)] w fun e w' => e = .returned (.int .i64 (unitD c.toNat : Int)) ∧ w = w' := by
  generalize c.toNat = n
  by_cases h1 : n = 121
  · subst h1
    go_enter Tryd.func27, Tryd.ntmps27
    go_wp2
    go_ret
    exact ⟨rfl, rfl⟩
  by_cases h2 : n = 109
  · subst h2
    go_enter Tryd.func27, Tryd.ntmps27
    go_wp2
    go_ret
    exact ⟨rfl, rfl⟩
  by_cases h3 : n = 119
  · subst h3
    go_enter Tryd.func27, Tryd.ntmps27
    go_wp2
    go_ret
    exact ⟨rfl, rfl⟩
  by_cases h4 : n = 100
  · subst h4
    go_enter Tryd.func27, Tryd.ntmps27
    go_wp2
    go_ret
    exact ⟨rfl, rfl⟩
  have e : unitD n = 0 := by unfold unitD; rw [if_neg h4, if_neg h3, if_neg h2, if_neg h1]
  rw [e]
  have a1 : ¬ ((n : Int) = 121) := by omega
  have a2 : ¬ ((n : Int) = 109) := by omega
  have a3 : ¬ ((n : Int) = 119) := by omega
  have a4 : ¬ ((n : Int) = 100) := by omega
  clear h1 h2 h3 h4 e
  go_enter Tryd.func27, Tryd.ntmps27
  go_wp2
  go_ret
  exact ⟨rfl, rfl⟩

/-- The document's Unit. -/
theorem unit15_any (c : UInt8) (w : World) :
    Calls Tryd.prog 49 #[.int .u8 (c.toNat : Int)] w fun e w' => e = .returned (.int .i64 (unitD c.toNat : Int)) ∧ w = w' := by
  generalize c.toNat = n
  by_cases h1 : n = 121
  · subst h1
    go_enter Tryd.func49, Tryd.ntmps49
    go_wp2
    go_ret
    exact ⟨rfl, rfl⟩
  by_cases h2 : n = 109
  · subst h2
    go_enter Tryd.func49, Tryd.ntmps49
    go_wp2
    go_ret
    exact ⟨rfl, rfl⟩
  by_cases h3 : n = 119
  · subst h3
    go_enter Tryd.func49, Tryd.ntmps49
    go_wp2
    go_ret
    exact ⟨rfl, rfl⟩
  by_cases h4 : n = 100
  · subst h4
    go_enter Tryd.func49, Tryd.ntmps49
    go_wp2
    go_ret
    exact ⟨rfl, rfl⟩
  have e : unitD n = 0 := by unfold unitD; rw [if_neg h4, if_neg h3, if_neg h2, if_neg h1]
  rw [e]
  have a1 : ¬ ((n : Int) = 121) := by omega
  have a2 : ¬ ((n : Int) = 109) := by omega
  have a3 : ¬ ((n : Int) = 119) := by omega
  have a4 : ¬ ((n : Int) = 100) := by omega
  clear h1 h2 h3 h4 e
  go_enter Tryd.func49, Tryd.ntmps49
  go_wp2
  go_ret
  exact ⟨rfl, rfl⟩

theorem days_1 (n : Int) (c : Nat) (hu : unitD c = 1) :
    (if n < 0 then Value.tuple #[.int .i64 0, .int .i64 1] else if 1048576 < n then .tuple #[.int .i64 0, .int .i64 16] else .tuple #[.int .i64 (n), .int .i64 0]) = .tuple #[.int .i64 (daysD n c).1, .int .i64 (daysD n c).2] := by
  unfold daysD
  rw [hu]
  have e : (1048576 : Int) / ((1 : Nat) : Int) = 1048576 := rfl
  have e2 : n * ((1 : Nat) : Int) = n := Int.mul_one n
  rw [e, e2]
  by_cases h0 : n < 0
  · rw [if_pos h0, if_pos (.inl h0)]
  · have hno : ¬ (n < 0 ∨ 1 = 0) := by omega
    rw [if_neg h0, if_neg hno]
    by_cases h1 : 1048576 < n
    · rw [if_pos h1, if_pos h1]
    · rw [if_neg h1, if_neg h1]
theorem days_7 (n : Int) (c : Nat) (hu : unitD c = 7) :
    (if n < 0 then Value.tuple #[.int .i64 0, .int .i64 1] else if 149796 < n then .tuple #[.int .i64 0, .int .i64 16] else .tuple #[.int .i64 (n * 7), .int .i64 0]) = .tuple #[.int .i64 (daysD n c).1, .int .i64 (daysD n c).2] := by
  unfold daysD
  rw [hu]
  have e : (1048576 : Int) / ((7 : Nat) : Int) = 149796 := rfl
  have e2 : n * ((7 : Nat) : Int) = n * 7 := rfl
  rw [e, e2]
  by_cases h0 : n < 0
  · rw [if_pos h0, if_pos (.inl h0)]
  · have hno : ¬ (n < 0 ∨ 7 = 0) := by omega
    rw [if_neg h0, if_neg hno]
    by_cases h1 : 149796 < n
    · rw [if_pos h1, if_pos h1]
    · rw [if_neg h1, if_neg h1]
theorem days_30 (n : Int) (c : Nat) (hu : unitD c = 30) :
    (if n < 0 then Value.tuple #[.int .i64 0, .int .i64 1] else if 34952 < n then .tuple #[.int .i64 0, .int .i64 16] else .tuple #[.int .i64 (n * 30), .int .i64 0]) = .tuple #[.int .i64 (daysD n c).1, .int .i64 (daysD n c).2] := by
  unfold daysD
  rw [hu]
  have e : (1048576 : Int) / ((30 : Nat) : Int) = 34952 := rfl
  have e2 : n * ((30 : Nat) : Int) = n * 30 := rfl
  rw [e, e2]
  by_cases h0 : n < 0
  · rw [if_pos h0, if_pos (.inl h0)]
  · have hno : ¬ (n < 0 ∨ 30 = 0) := by omega
    rw [if_neg h0, if_neg hno]
    by_cases h1 : 34952 < n
    · rw [if_pos h1, if_pos h1]
    · rw [if_neg h1, if_neg h1]
theorem days_365 (n : Int) (c : Nat) (hu : unitD c = 365) :
    (if n < 0 then Value.tuple #[.int .i64 0, .int .i64 1] else if 2872 < n then .tuple #[.int .i64 0, .int .i64 16] else .tuple #[.int .i64 (n * 365), .int .i64 0]) = .tuple #[.int .i64 (daysD n c).1, .int .i64 (daysD n c).2] := by
  unfold daysD
  rw [hu]
  have e : (1048576 : Int) / ((365 : Nat) : Int) = 2872 := rfl
  have e2 : n * ((365 : Nat) : Int) = n * 365 := rfl
  rw [e, e2]
  by_cases h0 : n < 0
  · rw [if_pos h0, if_pos (.inl h0)]
  · have hno : ¬ (n < 0 ∨ 365 = 0) := by omega
    rw [if_neg h0, if_neg hno]
    by_cases h1 : 2872 < n
    · rw [if_pos h1, if_pos h1]
    · rw [if_neg h1, if_neg h1]
theorem days15_0 (n : Int) (hn : I64 n) (c : Int) (w : World) (hs : ∀ w, Calls Tryd.prog 27 #[.int .u8 c] w fun e w' => e = .returned (.int .i64 0) ∧ w = w') :
    Calls Tryd.prog 29 #[.int .i64 n, .int .u8 c] w fun e w' => e = .returned (.tuple #[.int .i64 0, .int .i64 1]) ∧ w = w' := by
  obtain ⟨n0, n1⟩ := hn
  by_cases h0 : n < 0
  · go_enter Tryd.func29, Tryd.ntmps29
    go_wp2_with (go_at_call 27; refine (hs _).mono ?_; rintro e w' ⟨rfl, rfl⟩)
    go_ret2
    exact ⟨rfl, rfl⟩
  · go_enter Tryd.func29, Tryd.ntmps29
    go_wp2_with (go_at_call 27; refine (hs _).mono ?_; rintro e w' ⟨rfl, rfl⟩)
    go_ret2
    exact ⟨rfl, rfl⟩
theorem days15_1 (n : Int) (hn : I64 n) (c : Int) (w : World) (hs : ∀ w, Calls Tryd.prog 27 #[.int .u8 c] w fun e w' => e = .returned (.int .i64 1) ∧ w = w') :
    Calls Tryd.prog 29 #[.int .i64 n, .int .u8 c] w fun e w' => e = .returned (if n < 0 then .tuple #[.int .i64 0, .int .i64 1] else if 1048576 < n then .tuple #[.int .i64 0, .int .i64 16] else .tuple #[.int .i64 (n), .int .i64 0]) ∧ w = w' := by
  obtain ⟨n0, n1⟩ := hn
  have eq1 : Int.tdiv 1048576 1 = 1048576 := by decide
  by_cases h0 : n < 0
  · rw [if_pos h0]
    go_enter Tryd.func29, Tryd.ntmps29
    go_wp2_with (go_at_call 27; refine (hs _).mono ?_; rintro e w' ⟨rfl, rfl⟩)
    go_ret2
    exact ⟨rfl, rfl⟩
  · rw [if_neg h0]
    by_cases hb : 1048576 < n
    · rw [if_pos hb]
      go_enter Tryd.func29, Tryd.ntmps29
      go_wp2_with (go_at_call 27; refine (hs _).mono ?_; rintro e w' ⟨rfl, rfl⟩)
      go_ret2
      exact ⟨rfl, rfl⟩
    · rw [if_neg hb]
      go_enter Tryd.func29, Tryd.ntmps29
      go_wp2_with (go_at_call 27; refine (hs _).mono ?_; rintro e w' ⟨rfl, rfl⟩)
      go_ret2
      exact ⟨rfl, rfl⟩
theorem days15_7 (n : Int) (hn : I64 n) (c : Int) (w : World) (hs : ∀ w, Calls Tryd.prog 27 #[.int .u8 c] w fun e w' => e = .returned (.int .i64 7) ∧ w = w') :
    Calls Tryd.prog 29 #[.int .i64 n, .int .u8 c] w fun e w' => e = .returned (if n < 0 then .tuple #[.int .i64 0, .int .i64 1] else if 149796 < n then .tuple #[.int .i64 0, .int .i64 16] else .tuple #[.int .i64 (n * 7), .int .i64 0]) ∧ w = w' := by
  obtain ⟨n0, n1⟩ := hn
  have eq1 : Int.tdiv 1048576 7 = 149796 := by decide
  by_cases h0 : n < 0
  · rw [if_pos h0]
    go_enter Tryd.func29, Tryd.ntmps29
    go_wp2_with (go_at_call 27; refine (hs _).mono ?_; rintro e w' ⟨rfl, rfl⟩)
    go_ret2
    exact ⟨rfl, rfl⟩
  · rw [if_neg h0]
    by_cases hb : 149796 < n
    · rw [if_pos hb]
      go_enter Tryd.func29, Tryd.ntmps29
      go_wp2_with (go_at_call 27; refine (hs _).mono ?_; rintro e w' ⟨rfl, rfl⟩)
      go_ret2
      exact ⟨rfl, rfl⟩
    · rw [if_neg hb]
      go_enter Tryd.func29, Tryd.ntmps29
      go_wp2_with (go_at_call 27; refine (hs _).mono ?_; rintro e w' ⟨rfl, rfl⟩)
      go_ret2
      exact ⟨rfl, rfl⟩
theorem days15_30 (n : Int) (hn : I64 n) (c : Int) (w : World) (hs : ∀ w, Calls Tryd.prog 27 #[.int .u8 c] w fun e w' => e = .returned (.int .i64 30) ∧ w = w') :
    Calls Tryd.prog 29 #[.int .i64 n, .int .u8 c] w fun e w' => e = .returned (if n < 0 then .tuple #[.int .i64 0, .int .i64 1] else if 34952 < n then .tuple #[.int .i64 0, .int .i64 16] else .tuple #[.int .i64 (n * 30), .int .i64 0]) ∧ w = w' := by
  obtain ⟨n0, n1⟩ := hn
  have eq1 : Int.tdiv 1048576 30 = 34952 := by decide
  by_cases h0 : n < 0
  · rw [if_pos h0]
    go_enter Tryd.func29, Tryd.ntmps29
    go_wp2_with (go_at_call 27; refine (hs _).mono ?_; rintro e w' ⟨rfl, rfl⟩)
    go_ret2
    exact ⟨rfl, rfl⟩
  · rw [if_neg h0]
    by_cases hb : 34952 < n
    · rw [if_pos hb]
      go_enter Tryd.func29, Tryd.ntmps29
      go_wp2_with (go_at_call 27; refine (hs _).mono ?_; rintro e w' ⟨rfl, rfl⟩)
      go_ret2
      exact ⟨rfl, rfl⟩
    · rw [if_neg hb]
      go_enter Tryd.func29, Tryd.ntmps29
      go_wp2_with (go_at_call 27; refine (hs _).mono ?_; rintro e w' ⟨rfl, rfl⟩)
      go_ret2
      exact ⟨rfl, rfl⟩
theorem days15_365 (n : Int) (hn : I64 n) (c : Int) (w : World) (hs : ∀ w, Calls Tryd.prog 27 #[.int .u8 c] w fun e w' => e = .returned (.int .i64 365) ∧ w = w') :
    Calls Tryd.prog 29 #[.int .i64 n, .int .u8 c] w fun e w' => e = .returned (if n < 0 then .tuple #[.int .i64 0, .int .i64 1] else if 2872 < n then .tuple #[.int .i64 0, .int .i64 16] else .tuple #[.int .i64 (n * 365), .int .i64 0]) ∧ w = w' := by
  obtain ⟨n0, n1⟩ := hn
  have eq1 : Int.tdiv 1048576 365 = 2872 := by decide
  by_cases h0 : n < 0
  · rw [if_pos h0]
    go_enter Tryd.func29, Tryd.ntmps29
    go_wp2_with (go_at_call 27; refine (hs _).mono ?_; rintro e w' ⟨rfl, rfl⟩)
    go_ret2
    exact ⟨rfl, rfl⟩
  · rw [if_neg h0]
    by_cases hb : 2872 < n
    · rw [if_pos hb]
      go_enter Tryd.func29, Tryd.ntmps29
      go_wp2_with (go_at_call 27; refine (hs _).mono ?_; rintro e w' ⟨rfl, rfl⟩)
      go_ret2
      exact ⟨rfl, rfl⟩
    · rw [if_neg hb]
      go_enter Tryd.func29, Tryd.ntmps29
      go_wp2_with (go_at_call 27; refine (hs _).mono ?_; rintro e w' ⟨rfl, rfl⟩)
      go_ret2
      exact ⟨rfl, rfl⟩

/-- Days. -/
theorem days15_any (n : Int) (hn : I64 n) (c : UInt8) (w : World) :
    Calls Tryd.prog 29 #[.int .i64 n, .int .u8 (c.toNat : Int)] w fun e w' => e = .returned (.tuple #[.int .i64 (daysD n c.toNat).1, .int .i64 (daysD n c.toNat).2]) ∧ w = w' := by
  have hs := size15_any c
  rcases unit_cases c.toNat with hu | ⟨_, hu⟩ | ⟨_, hu⟩ | ⟨_, hu⟩ | ⟨_, hu⟩
  all_goals rw [hu] at hs
  · refine (days15_0 n hn _ w hs).mono ?_
    rintro e w' ⟨rfl, rfl⟩
    unfold daysD
    rw [if_pos (.inr hu)]
    exact ⟨rfl, rfl⟩
  · refine (days15_1 n hn _ w hs).mono ?_
    rintro e w' ⟨rfl, rfl⟩
    refine ⟨congrArg _ ?_, rfl⟩
    exact days_1 n _ hu
  · refine (days15_7 n hn _ w hs).mono ?_
    rintro e w' ⟨rfl, rfl⟩
    refine ⟨congrArg _ ?_, rfl⟩
    exact days_7 n _ hu
  · refine (days15_30 n hn _ w hs).mono ?_
    rintro e w' ⟨rfl, rfl⟩
    refine ⟨congrArg _ ?_, rfl⟩
    exact days_30 n _ hu
  · refine (days15_365 n hn _ w hs).mono ?_
    rintro e w' ⟨rfl, rfl⟩
    refine ⟨congrArg _ ?_, rfl⟩
    exact days_365 n _ hu
theorem rdays15_0 (n : Int) (hn : I64 n) (c : Int) (w : World) (hs : ∀ w, Calls Tryd.prog 49 #[.int .u8 c] w fun e w' => e = .returned (.int .i64 0) ∧ w = w') :
    Calls Tryd.prog 51 #[.int .i64 n, .int .u8 c] w fun e w' => e = .returned (.tuple #[.int .i64 0, .int .i64 1]) ∧ w = w' := by
  obtain ⟨n0, n1⟩ := hn
  by_cases h0 : n < 0
  · go_enter Tryd.func51, Tryd.ntmps51
    go_wp2_with (go_at_call 49; refine (hs _).mono ?_; rintro e w' ⟨rfl, rfl⟩)
    go_ret2
    exact ⟨rfl, rfl⟩
  · go_enter Tryd.func51, Tryd.ntmps51
    go_wp2_with (go_at_call 49; refine (hs _).mono ?_; rintro e w' ⟨rfl, rfl⟩)
    go_ret2
    exact ⟨rfl, rfl⟩
theorem rdays15_1 (n : Int) (hn : I64 n) (c : Int) (w : World) (hs : ∀ w, Calls Tryd.prog 49 #[.int .u8 c] w fun e w' => e = .returned (.int .i64 1) ∧ w = w') :
    Calls Tryd.prog 51 #[.int .i64 n, .int .u8 c] w fun e w' => e = .returned (if n < 0 then .tuple #[.int .i64 0, .int .i64 1] else if 1048576 < n then .tuple #[.int .i64 0, .int .i64 16] else .tuple #[.int .i64 (n), .int .i64 0]) ∧ w = w' := by
  obtain ⟨n0, n1⟩ := hn
  have eq1 : Int.tdiv 1048576 1 = 1048576 := by decide
  by_cases h0 : n < 0
  · rw [if_pos h0]
    go_enter Tryd.func51, Tryd.ntmps51
    go_wp2_with (go_at_call 49; refine (hs _).mono ?_; rintro e w' ⟨rfl, rfl⟩)
    go_ret2
    exact ⟨rfl, rfl⟩
  · rw [if_neg h0]
    by_cases hb : 1048576 < n
    · rw [if_pos hb]
      go_enter Tryd.func51, Tryd.ntmps51
      go_wp2_with (go_at_call 49; refine (hs _).mono ?_; rintro e w' ⟨rfl, rfl⟩)
      go_ret2
      exact ⟨rfl, rfl⟩
    · rw [if_neg hb]
      go_enter Tryd.func51, Tryd.ntmps51
      go_wp2_with (go_at_call 49; refine (hs _).mono ?_; rintro e w' ⟨rfl, rfl⟩)
      go_ret2
      exact ⟨rfl, rfl⟩
theorem rdays15_7 (n : Int) (hn : I64 n) (c : Int) (w : World) (hs : ∀ w, Calls Tryd.prog 49 #[.int .u8 c] w fun e w' => e = .returned (.int .i64 7) ∧ w = w') :
    Calls Tryd.prog 51 #[.int .i64 n, .int .u8 c] w fun e w' => e = .returned (if n < 0 then .tuple #[.int .i64 0, .int .i64 1] else if 149796 < n then .tuple #[.int .i64 0, .int .i64 16] else .tuple #[.int .i64 (n * 7), .int .i64 0]) ∧ w = w' := by
  obtain ⟨n0, n1⟩ := hn
  have eq1 : Int.tdiv 1048576 7 = 149796 := by decide
  by_cases h0 : n < 0
  · rw [if_pos h0]
    go_enter Tryd.func51, Tryd.ntmps51
    go_wp2_with (go_at_call 49; refine (hs _).mono ?_; rintro e w' ⟨rfl, rfl⟩)
    go_ret2
    exact ⟨rfl, rfl⟩
  · rw [if_neg h0]
    by_cases hb : 149796 < n
    · rw [if_pos hb]
      go_enter Tryd.func51, Tryd.ntmps51
      go_wp2_with (go_at_call 49; refine (hs _).mono ?_; rintro e w' ⟨rfl, rfl⟩)
      go_ret2
      exact ⟨rfl, rfl⟩
    · rw [if_neg hb]
      go_enter Tryd.func51, Tryd.ntmps51
      go_wp2_with (go_at_call 49; refine (hs _).mono ?_; rintro e w' ⟨rfl, rfl⟩)
      go_ret2
      exact ⟨rfl, rfl⟩
theorem rdays15_30 (n : Int) (hn : I64 n) (c : Int) (w : World) (hs : ∀ w, Calls Tryd.prog 49 #[.int .u8 c] w fun e w' => e = .returned (.int .i64 30) ∧ w = w') :
    Calls Tryd.prog 51 #[.int .i64 n, .int .u8 c] w fun e w' => e = .returned (if n < 0 then .tuple #[.int .i64 0, .int .i64 1] else if 34952 < n then .tuple #[.int .i64 0, .int .i64 16] else .tuple #[.int .i64 (n * 30), .int .i64 0]) ∧ w = w' := by
  obtain ⟨n0, n1⟩ := hn
  have eq1 : Int.tdiv 1048576 30 = 34952 := by decide
  by_cases h0 : n < 0
  · rw [if_pos h0]
    go_enter Tryd.func51, Tryd.ntmps51
    go_wp2_with (go_at_call 49; refine (hs _).mono ?_; rintro e w' ⟨rfl, rfl⟩)
    go_ret2
    exact ⟨rfl, rfl⟩
  · rw [if_neg h0]
    by_cases hb : 34952 < n
    · rw [if_pos hb]
      go_enter Tryd.func51, Tryd.ntmps51
      go_wp2_with (go_at_call 49; refine (hs _).mono ?_; rintro e w' ⟨rfl, rfl⟩)
      go_ret2
      exact ⟨rfl, rfl⟩
    · rw [if_neg hb]
      go_enter Tryd.func51, Tryd.ntmps51
      go_wp2_with (go_at_call 49; refine (hs _).mono ?_; rintro e w' ⟨rfl, rfl⟩)
      go_ret2
      exact ⟨rfl, rfl⟩
theorem rdays15_365 (n : Int) (hn : I64 n) (c : Int) (w : World) (hs : ∀ w, Calls Tryd.prog 49 #[.int .u8 c] w fun e w' => e = .returned (.int .i64 365) ∧ w = w') :
    Calls Tryd.prog 51 #[.int .i64 n, .int .u8 c] w fun e w' => e = .returned (if n < 0 then .tuple #[.int .i64 0, .int .i64 1] else if 2872 < n then .tuple #[.int .i64 0, .int .i64 16] else .tuple #[.int .i64 (n * 365), .int .i64 0]) ∧ w = w' := by
  obtain ⟨n0, n1⟩ := hn
  have eq1 : Int.tdiv 1048576 365 = 2872 := by decide
  by_cases h0 : n < 0
  · rw [if_pos h0]
    go_enter Tryd.func51, Tryd.ntmps51
    go_wp2_with (go_at_call 49; refine (hs _).mono ?_; rintro e w' ⟨rfl, rfl⟩)
    go_ret2
    exact ⟨rfl, rfl⟩
  · rw [if_neg h0]
    by_cases hb : 2872 < n
    · rw [if_pos hb]
      go_enter Tryd.func51, Tryd.ntmps51
      go_wp2_with (go_at_call 49; refine (hs _).mono ?_; rintro e w' ⟨rfl, rfl⟩)
      go_ret2
      exact ⟨rfl, rfl⟩
    · rw [if_neg hb]
      go_enter Tryd.func51, Tryd.ntmps51
      go_wp2_with (go_at_call 49; refine (hs _).mono ?_; rintro e w' ⟨rfl, rfl⟩)
      go_ret2
      exact ⟨rfl, rfl⟩

/-- The document's Days. -/
theorem rdays15_any (n : Int) (hn : I64 n) (c : UInt8) (w : World) :
    Calls Tryd.prog 51 #[.int .i64 n, .int .u8 (c.toNat : Int)] w fun e w' => e = .returned (.tuple #[.int .i64 (daysD n c.toNat).1, .int .i64 (daysD n c.toNat).2]) ∧ w = w' := by
  have hs := unit15_any c
  rcases unit_cases c.toNat with hu | ⟨_, hu⟩ | ⟨_, hu⟩ | ⟨_, hu⟩ | ⟨_, hu⟩
  all_goals rw [hu] at hs
  · refine (rdays15_0 n hn _ w hs).mono ?_
    rintro e w' ⟨rfl, rfl⟩
    unfold daysD
    rw [if_pos (.inr hu)]
    exact ⟨rfl, rfl⟩
  · refine (rdays15_1 n hn _ w hs).mono ?_
    rintro e w' ⟨rfl, rfl⟩
    refine ⟨congrArg _ ?_, rfl⟩
    exact days_1 n _ hu
  · refine (rdays15_7 n hn _ w hs).mono ?_
    rintro e w' ⟨rfl, rfl⟩
    refine ⟨congrArg _ ?_, rfl⟩
    exact days_7 n _ hu
  · refine (rdays15_30 n hn _ w hs).mono ?_
    rintro e w' ⟨rfl, rfl⟩
    refine ⟨congrArg _ ?_, rfl⟩
    exact days_30 n _ hu
  · refine (rdays15_365 n hn _ w hs).mono ?_
    rintro e w' ⟨rfl, rfl⟩
    refine ⟨congrArg _ ?_, rfl⟩
    exact days_365 n _ hu

end Go.Proofs.YtndmdenhmcmbcaaDoor
