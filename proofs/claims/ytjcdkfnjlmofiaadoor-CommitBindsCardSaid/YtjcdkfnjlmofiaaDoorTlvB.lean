/-
  The reader of tlv: Num, Int, Count, Text: each one's contract over the loaded program.
  No condition but the worlds' shapes that each contract names.
-/
import Derived.Test.YtjcdkfnjlmofiaaDoorTlvA
import Derived.Test.YtjcdkfnjlmofiaaDoorTlvM
namespace Go.Proofs.YtjcdkfnjlmofiaaDoor
open Go.RowKit
theorem shl_or (a : Nat) (b : UInt8) : (a * 256) ||| b.toNat = a * 256 + b.toNat := by
  have := b.toNat_lt
  rw [show a * 256 = a <<< 8 from by rw [Nat.shiftLeft_eq], ← Nat.shiftLeft_add_eq_or_of_lt (by omega)]

theorem or_step (a : Nat) (b : UInt8) (h : a < 72057594037927936) : bits .or .u64 (IntKind.u64.wrap ((a : Int) * 256)) (IntKind.u64.wrap (b.toNat : Int)) = ((a * 256 + b.toNat : Nat) : Int) := by
  have hb := b.toNat_lt
  rw [IntWalk.u64_in _ (by omega), IntWalk.u64_in _ (by omega), show (a : Int) * 256 = ((a * 256 : Nat) : Int) from by omega, u64_or_nat _ _ (by omega) (by omega), shl_or]

theorem numOf_len (st : Option (List UInt8)) : ((numOf st).1.getD []).length ≤ (st.getD []).length := by
  unfold numOf
  split
  · split <;> simp
    omega
  · simp

theorem cntOf_len (most : Int) (st : Option (List UInt8)) : ((cntOf most st).1.getD []).length ≤ (st.getD []).length := by
  unfold cntOf
  split
  · simp
  · exact numOf_len st

end Go.Proofs.YtjcdkfnjlmofiaaDoor
