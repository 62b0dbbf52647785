/-
  Which names may be: plain (layer 12's P12.1). No condition; nothing of the dump is used here. (Taken out of InM.)
-/
import Derived.Test.YtommcdgognlfcaaMem
namespace Go.Proofs.Ytommcdgognlfcaa
set_option maxRecDepth 100000
set_option linter.unusedVariables false

/-- A byte that a name may have. -/
def okc (c : Nat) : Bool := (decide (97 ≤ c) && decide (c ≤ 122)) || (decide (48 ≤ c) && decide (c ≤ 57)) || decide (c = 46) || decide (c = 45) || decide (c = 95)
def nameS (l : List UInt8) : Bool := decide (1 ≤ l.length) && decide (l.length ≤ 16) && l.all fun b => okc b.toNat
theorem name_iff (l : List UInt8) : nameS l = true ↔ 1 ≤ l.length ∧ l.length ≤ 16 ∧ ∀ b ∈ l, okc b.toNat = true := by
  unfold nameS
  simp only [Bool.and_eq_true, decide_eq_true_eq, and_assoc, List.all_eq_true]
theorem name_ex : nameS [97, 45, 49, 46, 120] = true := by decide +kernel
theorem name_ex2 : nameS [65] = false := by decide +kernel
end Go.Proofs.Ytommcdgognlfcaa
