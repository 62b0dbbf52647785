/-
  Units of spans: the program's size, upTo, Days, After, Add, and the document's Unit, Days, After, Add (layer 15), over the loaded program: each one's contract. No condition but that a number is an int.
-/
import Derived.Test.YtbhebjkicooidaaDoorSpM
import Derived.Test.YtbhebjkicooidaaDoorBase
import Derived.Test.YtbhebjkicooidaaDoorKp
import Derived.Lib.Hide
namespace Go.Proofs.YtbhebjkicooidaaDoor
open Go.RowKit
set_option maxRecDepth 100000
set_option linter.unusedVariables false

/-- size. -/
theorem size15_any (c : UInt8) (w : World) :
    Calls Tryd.prog 66 #[.int .u8 (c.toNat : Int)] w fun e w' => e = .returned (.int .i64 (unitD c.toNat : Int)) ∧ w = w' := by
  generalize c.toNat = n
  by_cases h1 : n = 121
  · subst h1
    go_enter Tryd.func66, Tryd.ntmps66
    go_wp2
    go_ret
    exact ⟨rfl, rfl⟩
  by_cases h2 : n = 109
  · subst h2
    go_enter Tryd.func66, Tryd.ntmps66
    go_wp2
    go_ret
    exact ⟨rfl, rfl⟩
  by_cases h3 : n = 119
  · subst h3
    go_enter Tryd.func66, Tryd.ntmps66
    go_wp2
    go_ret
    exact ⟨rfl, rfl⟩
  by_cases h4 : n = 100
  · subst h4
    go_enter Tryd.func66, Tryd.ntmps66
    go_wp2
    go_ret
    exact ⟨rfl, rfl⟩
  have e : unitD n = 0 := by unfold unitD; rw [if_neg h4, if_neg h3, if_neg h2, if_neg h1]
  rw [e]
  have a1 : ¬ ((n : Int) = 121) := by omega
  have a2 : ¬ ((n : Int) = 109) := by omega
  have a3 : ¬ ((n : Int) = 119) := by omega
  have a4 : ¬ ((n : Int) = 100) := by omega
  clear h1 h2 h3 h4 e
  go_enter Tryd.func66, Tryd.ntmps66
  go_wp2
  go_ret
  exact ⟨rfl, rfl⟩

/-- The document's Unit. -/
theorem unit15_any (c : UInt8) (w : World) :
    Calls Tryd.prog 55 #[.int .u8 (c.toNat : Int)] w fun e w' => e = .returned (.int .i64 (unitD c.toNat : Int)) ∧ w = w' := by
  generalize c.toNat = n
  by_cases h1 : n = 121
  · subst h1
    go_enter Tryd.func55, Tryd.ntmps55
    go_wp2
    go_ret
    exact ⟨rfl, rfl⟩
  by_cases h2 : n = 109
  · subst h2
    go_enter Tryd.func55, Tryd.ntmps55
    go_wp2
    go_ret
    exact ⟨rfl, rfl⟩
  by_cases h3 : n = 119
  · subst h3
    go_enter Tryd.func55, Tryd.ntmps55
    go_wp2
    go_ret
    exact ⟨rfl, rfl⟩
  by_cases h4 : n = 100
  · subst h4
    go_enter Tryd.func55, Tryd.ntmps55
    go_wp2
    go_ret
    exact ⟨rfl, rfl⟩
  have e : unitD n = 0 := by unfold unitD; rw [if_neg h4, if_neg h3, if_neg h2, if_neg h1]
  rw [e]
  have a1 : ¬ ((n : Int) = 121) := by omega
  have a2 : ¬ ((n : Int) = 109) := by omega
  have a3 : ¬ ((n : Int) = 119) := by omega
  have a4 : ¬ ((n : Int) = 100) := by omega
  clear h1 h2 h3 h4 e
  go_enter Tryd.func55, Tryd.ntmps55
  go_wp2
  go_ret
  exact ⟨rfl, rfl⟩

/-- upTo. -/
theorem upTo_any (n m : Int) (w : World) :
    Calls Tryd.prog 63 #[.int .i64 n, .int .i64 m] w fun e w' => e = .returned (.bool (decide (0 ≤ n ∧ n ≤ m))) ∧ w = w' := by
  by_cases h1 : 0 ≤ n
  · by_cases h2 : n ≤ m
    · rw [decide_eq_true (by omega)]
      go_enter Tryd.func63, Tryd.ntmps63
      go_wp2
      go_ret
      exact ⟨rfl, rfl⟩
    · rw [decide_eq_false (by omega)]
      go_enter Tryd.func63, Tryd.ntmps63
      go_wp2
      go_ret
      exact ⟨rfl, rfl⟩
  · rw [decide_eq_false (by omega)]
    go_enter Tryd.func63, Tryd.ntmps63
    go_wp2
    go_ret
    exact ⟨rfl, rfl⟩

theorem days_1 (n : Int) (c : Nat) (hu : unitD c = 1) :
    (if n < 0 then Value.tuple #[.int .i64 0, .int .i64 1] else if 1048576 < n then .tuple #[.int .i64 0, .int .i64 16] else .tuple #[.int .i64 (n), .int .i64 0]) = .tuple #[.int .i64 (daysD n c).1, .int .i64 (daysD n c).2] := by
  unfold daysD
  rw [hu]
  have e : (1048576 : Int) / ((1 : Nat) : Int) = 1048576 := rfl
  have e2 : n * ((1 : Nat) : Int) = n := Int.mul_one n
  rw [e, e2]
  by_cases h0 : n < 0
  · rw [if_pos h0, if_pos (.inl h0)]
  · have hno : ¬ (n < 0 ∨ 1 = 0) := by omega
    rw [if_neg h0, if_neg hno]
    by_cases h1 : 1048576 < n
    · rw [if_pos h1, if_pos h1]
    · rw [if_neg h1, if_neg h1]
theorem days_7 (n : Int) (c : Nat) (hu : unitD c = 7) :
    (if n < 0 then Value.tuple #[.int .i64 0, .int .i64 1] else if 149796 < n then .tuple #[.int .i64 0, .int .i64 16] else .tuple #[.int .i64 (n * 7), .int .i64 0]) = .tuple #[.int .i64 (daysD n c).1, .int .i64 (daysD n c).2] := by
  unfold daysD
  rw [hu]
  have e : (1048576 : Int) / ((7 : Nat) : Int) = 149796 := rfl
  have e2 : n * ((7 : Nat) : Int) = n * 7 := rfl
  rw [e, e2]
  by_cases h0 : n < 0
  · rw [if_pos h0, if_pos (.inl h0)]
  · have hno : ¬ (n < 0 ∨ 7 = 0) := by omega
    rw [if_neg h0, if_neg hno]
    by_cases h1 : 149796 < n
    · rw [if_pos h1, if_pos h1]
    · rw [if_neg h1, if_neg h1]
theorem days_30 (n : Int) (c : Nat) (hu : unitD c = 30) :
    (if n < 0 then Value.tuple #[.int .i64 0, .int .i64 1] else if 34952 < n then .tuple #[.int .i64 0, .int .i64 16] else .tuple #[.int .i64 (n * 30), .int .i64 0]) = .tuple #[.int .i64 (daysD n c).1, .int .i64 (daysD n c).2] := by
  unfold daysD
  rw [hu]
  have e : (1048576 : Int) / ((30 : Nat) : Int) = 34952 := rfl
  have e2 : n * ((30 : Nat) : Int) = n * 30 := rfl
  rw [e, e2]
  by_cases h0 : n < 0
  · rw [if_pos h0, if_pos (.inl h0)]
  · have hno : ¬ (n < 0 ∨ 30 = 0) := by omega
    rw [if_neg h0, if_neg hno]
    by_cases h1 : 34952 < n
    · rw [if_pos h1, if_pos h1]
    · rw [if_neg h1, if_neg h1]
theorem days_365 (n : Int) (c : Nat) (hu : unitD c = 365) :
    (if n < 0 then Value.tuple #[.int .i64 0, .int .i64 1] else if 2872 < n then .tuple #[.int .i64 0, .int .i64 16] else .tuple #[.int .i64 (n * 365), .int .i64 0]) = .tuple #[.int .i64 (daysD n c).1, .int .i64 (daysD n c).2] := by
  unfold daysD
  rw [hu]
  have e : (1048576 : Int) / ((365 : Nat) : Int) = 2872 := rfl
  have e2 : n * ((365 : Nat) : Int) = n * 365 := rfl
  rw [e, e2]
  by_cases h0 : n < 0
  · rw [if_pos h0, if_pos (.inl h0)]
  · have hno : ¬ (n < 0 ∨ 365 = 0) := by omega
    rw [if_neg h0, if_neg hno]
    by_cases h1 : 2872 < n
    · rw [if_pos h1, if_pos h1]
    · rw [if_neg h1, if_neg h1]
end Go.Proofs.YtbhebjkicooidaaDoor
