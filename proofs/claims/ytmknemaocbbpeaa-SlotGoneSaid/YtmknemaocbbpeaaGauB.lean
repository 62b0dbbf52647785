/-
  Pow and Inv of gauss, over the loaded program: each one's contract. No condition but the sizes that each contract names.
-/
import Derived.Test.YtmknemaocbbpeaaGauA
namespace Go.Proofs.Ytmknemaocbbpeaa
open Go.RowKit Gau
set_option maxRecDepth 100000
set_option linter.unusedVariables false

theorem cz_one : Value.complex .f64 4607182418800017408 0 = cz one := by
  have h1 : fl 1 = 4607182418800017408 := by decide
  show _ = Value.complex .f64 (fl 1) (fl 0)
  rw [h1, fl_zero]

theorem cz_zero : Value.complex .f64 0 0 = cz zero := by
  show _ = Value.complex .f64 (fl 0) (fl 0)
  rw [fl_zero]

theorem gof_int (x : F) : gI (x.val : Int) 0 = gof x := by
  unfold gI gof
  rw [ofI_of]; rfl

/-- Whether a number is 0. -/
def isz (a : G) : Bool := decide (a = zero)

/-- The power by a whole number: of one below 0 that of the inverse. -/
def zpow (a : G) (n : Int) : G := if n < 0 then gpow (ginv a) n.natAbs else gpow a n.natAbs

theorem neg_wrap (n : Int) (h : n < 0) (h2 : -9223372036854775808 ≤ n) : IntKind.u64.wrap (-IntKind.u64.wrap n) = (n.natAbs : Int) := by
  simp [IntKind.wrap, IntKind.bits, IntKind.signed]; omega

end Go.Proofs.Ytmknemaocbbpeaa
