/-
  Numbers told in digits: the program's number and the document's Number of at most seven digits (layer 15), over the loaded program: each one's contract. No condition.
-/
import Derived.Test.YtbhebjkicooidaaDoorSpA
import Derived.Test.YtbhebjkicooidaaDoorTxt
import Derived.Test.YtbhebjkicooidaaDoorTxs
namespace Go.Proofs.YtbhebjkicooidaaDoor
open Go.RowKit
set_option maxRecDepth 100000
set_option linter.unusedVariables false

theorem numF_step {l : List UInt8} {k m : Nat} {x : UInt8} (hx : l[k]? = some x) (h0 : 48 ≤ x.toNat) (h1 : x.toNat ≤ 57) : numF m (l.drop k) = numF (10 * m + (x.toNat - 48)) (l.drop (k + 1)) := by
  obtain ⟨hk, rfl⟩ := List.getElem?_eq_some_iff.1 hx
  rw [List.drop_eq_getElem_cons hk]
  simp only [numF]
  rw [if_pos ⟨h0, h1⟩]
theorem numF_stop {l : List UInt8} {k m : Nat} {x : UInt8} (hx : l[k]? = some x) (h : ¬ (48 ≤ x.toNat ∧ x.toNat ≤ 57)) : numF m (l.drop k) = none := by
  obtain ⟨hk, rfl⟩ := List.getElem?_eq_some_iff.1 hx
  rw [List.drop_eq_getElem_cons hk]
  simp only [numF]
  rw [if_neg h]
theorem numF_end {l : List UInt8} {k m : Nat} (h : l.length ≤ k) : numF m (l.drop k) = some m := by
  rw [List.drop_of_length_le h]; rfl
theorem ten_six {k m : Nat} (hk : k ≤ 6) (hm : m < 10 ^ k) : m < 1000000 :=
  Nat.lt_of_lt_of_le hm (by have := Nat.pow_le_pow_right (n := 10) (by decide) hk; simpa using this)
theorem ten_step {k m d : Nat} (hm : m < 10 ^ k) (hd : d < 10) : 10 * m + d < 10 ^ (k + 1) := by
  rw [Nat.pow_succ]; omega

end Go.Proofs.YtbhebjkicooidaaDoor
