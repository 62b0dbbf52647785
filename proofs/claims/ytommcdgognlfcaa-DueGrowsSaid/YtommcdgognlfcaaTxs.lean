/-
  Texts (strings) byte by byte: a byte of one; the first bytes of one; a part; two joined. Over the loaded program. No condition but sizes.
-/
import Derived.Test.YtommcdgognlfcaaBase
import Derived.Lib.Strings
import Derived.Laws.Strings2
import Derived.Laws.Strings3
import Derived.Laws.Concat
namespace Go.Proofs.Ytommcdgognlfcaa
open Go.RowKit
set_option maxRecDepth 100000
set_option linter.unusedVariables false

theorem str_size (l : List UInt8) : (⟨l.toArray⟩ : ByteArray).size = l.length := rfl

/-- s[k]. -/
theorem txt_at (l : List UInt8) (k : Nat) (x : UInt8) (hx : l[k]? = some x) : ∀ W : World, (Instr.index 9 (.string ⟨l.toArray⟩) (.int .i64 (k : Int))).run Try.prog W = .ok (.int .u8 (x.toNat : Int)) W := fun W => by
  have hk := (List.getElem?_eq_some_iff.1 hx).1
  have hs : (⟨l.toArray⟩ : ByteArray).size = l.length := rfl
  rw [run_index_string W 9 ⟨l.toArray⟩ .i64 (k : Int) Try.underlying9, dif_pos ⟨by omega, by rw [hs]; omega⟩]
  simp only [Int.toNat_natCast]
  have e : (⟨l.toArray⟩ : ByteArray)[k]'(by rw [hs]; exact hk) = x := by
    have := (List.getElem?_eq_some_iff.1 hx).2
    exact this
  rw [e]

/-- s[:k]. -/
theorem txt_to (l : List UInt8) (k : Nat) (hk : k ≤ l.length) : ∀ W : World, (Instr.slice 9 (.string ⟨l.toArray⟩) none (some (.int .i64 (k : Int))) none).run Try.prog W = .ok (.string ⟨(l.take k).toArray⟩) W := fun W => by
  rw [run_slice_string_to_if W 9 ⟨l.toArray⟩ .i64 (k : Int) Try.underlying9, if_pos ⟨by omega, by rw [str_size]; omega⟩, Int.toNat_natCast, ByteArray.extract_mk]
  simp

/-- s[a:b]. -/
theorem txt_mid (l : List UInt8) (i j : IntKind) (a b : Nat) (hab : a ≤ b) (hb : b ≤ l.length) : ∀ W : World, (Instr.slice 9 (.string ⟨l.toArray⟩) (some (.int i (a : Int))) (some (.int j (b : Int))) none).run Try.prog W = .ok (.string ⟨((l.drop a).take (b - a)).toArray⟩) W := fun W => by
  rw [run_slice_string W 9 ⟨l.toArray⟩ i j (a : Int) (b : Int) Try.underlying9 (by omega) (by omega) (by rw [str_size]; omega), Int.toNat_natCast, Int.toNat_natCast, ByteArray.extract_mk]

/-- s[k:]. -/
theorem txt_from (l : List UInt8) (k : Nat) (hk : k ≤ l.length) : ∀ W : World, (Instr.slice 9 (.string ⟨l.toArray⟩) (some (.int .i64 (k : Int))) none none).run Try.prog W = .ok (.string ⟨(l.drop k).toArray⟩) W := fun W => by
  rw [run_slice_string_from_if W 9 ⟨l.toArray⟩ .i64 (k : Int) Try.underlying9, if_pos ⟨by omega, by rw [str_size]; omega⟩, Int.toNat_natCast, ByteArray.extract_mk]
  have : ((l.drop k).take (l.length - k)) = l.drop k := List.take_of_length_le (by simp)
  simp [str_size, this]

/-- s + t. -/
theorem txt_add (l m : List UInt8) (h : l.length + m.length ≤ 9223372036854775807) : ∀ W : World, (Op.stringOp .add ⟨l.toArray⟩ ⟨m.toArray⟩).run Try.prog W = .ok (.string ⟨(l ++ m).toArray⟩) W := fun W => by
  rw [run_string_add_sum W _ _ (by rw [str_size, str_size]; exact h), ByteArray.mk_append_mk]
end Go.Proofs.Ytommcdgognlfcaa
