/-
  What a text tells: the program's Parse and the document's (layer 15), over the loaded program: each one's contract. No condition.
-/
import Derived.Test.YtbhebjkicooidaaDoorSpC
namespace Go.Proofs.YtbhebjkicooidaaDoor
open Go.RowKit
set_option maxRecDepth 100000
set_option linter.unusedVariables false

theorem numD_small {l : List UInt8} {n : Nat} (h : numD l = some n) : n < 10000000 := by
  obtain ⟨_, h7, _, hn⟩ := numD_some h
  have := (numF_bounds l 0 n hn).2
  rw [Nat.zero_add, Nat.one_mul] at this
  exact Nat.lt_of_lt_of_le this (by have := Nat.pow_le_pow_right (n := 10) (by decide) h7; simpa using this)

theorem parse_at {l : List UInt8} {n : Nat} {c : UInt8} (hn : l.length = n + 1) (hc : l[n]? = some c) :
    parseD l = if unitD c.toNat = 0 then (0, 2) else match numD (l.take n) with
      | none => (0, 2)
      | some k => daysD (k : Int) c.toNat := by
  have e1 : l.getLast? = some c := by rw [List.getLast?_eq_getElem?, hn]; exact hc
  have e2 : l.dropLast = l.take n := by rw [List.dropLast_eq_take, hn]; rfl
  unfold parseD
  rw [e1, e2]
  rfl
theorem numD_nil : numD [] = none := by unfold numD; rw [if_pos (.inl (by simp))]

/-- Days and error as a pair. -/
def pairV (p : Int × Int) : Value := .tuple #[.int .i64 p.1, .int .i64 p.2]

end Go.Proofs.YtbhebjkicooidaaDoor
