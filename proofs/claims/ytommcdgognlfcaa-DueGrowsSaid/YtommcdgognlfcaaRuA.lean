/-
  The document's Kept and Word (layer 17), over the loaded program: each one's contract. No condition but sizes.
-/
import Derived.Test.YtommcdgognlfcaaRuM
import Derived.Test.YtommcdgognlfcaaTxs
import Derived.Test.YtommcdgognlfcaaTxt
import Derived.Lib.Hide
import Derived.BigQuiet
namespace Go.Proofs.Ytommcdgognlfcaa
open Go.RowKit
set_option maxRecDepth 100000
set_option linter.unusedVariables false

theorem eq_lit (l m : List UInt8) : ((⟨l.toArray⟩ : ByteArray).toList == m) = decide (l = m) := by
  rw [Lib.toList_data]
  show (l == m) = _
  by_cases h : l = m
  · rw [decide_eq_true h]; exact beq_iff_eq.2 h
  · rw [decide_eq_false h]; exact beq_eq_false_iff_ne.2 h
/-- A text compared with a fixed one, in both forms that a walk may ask. -/
theorem eq_two (s : ByteArray) (l m : List UInt8) (hs : s = ⟨l.toArray⟩) (b : Bool) (h : decide (l = m) = b) : (s.toList == m) = b ∧ (s.toList == (⟨m.toArray⟩ : ByteArray).toList) = b := by
  subst hs
  exact ⟨(eq_lit l m).trans h, (str_eq l m).trans h⟩
theorem ne_if (s : ByteArray) (l m : List UInt8) (hs : s = ⟨l.toArray⟩) (h : ¬ l = m) : (s.toList != m) = true ∧ (s.toList != (⟨m.toArray⟩ : ByteArray).toList) = true ∧ ¬ s.toList = m := by
  obtain ⟨h1, h2⟩ := eq_two s l m hs false (decide_eq_false h)
  exact ⟨by rw [bne, h1]; rfl, by rw [bne, h2]; rfl, beq_eq_false_iff_ne.1 h1⟩
theorem ne_not (s : ByteArray) (l m : List UInt8) (hs : s = ⟨l.toArray⟩) (h : l = m) : (s.toList != m) = false ∧ (s.toList != (⟨m.toArray⟩ : ByteArray).toList) = false ∧ s.toList = m := by
  obtain ⟨h1, h2⟩ := eq_two s l m hs true (decide_eq_true h)
  exact ⟨by rw [bne, h1]; rfl, by rw [bne, h2]; rfl, beq_iff_eq.1 h1⟩
theorem kept_no {l : List UInt8} (h0 : ¬ l = [99, 108, 97, 115, 115]) (h1 : ¬ l = [100, 101, 102, 97, 117, 108, 116]) (h2 : ¬ l = [107, 101, 101, 112]) (h3 : ¬ l = [97, 102, 116, 101, 114]) (h4 : ¬ l = [111, 114]) (h5 : ¬ l = [97, 110, 100]) (h6 : ¬ l = [116, 104, 101, 110]) (h7 : ¬ l = [100, 101, 115, 116, 114, 111, 121]) (h8 : ¬ l = [114, 101, 118, 105, 101, 119]) : decide (l ∈ keptL) = false := by
  apply decide_eq_false
  unfold keptL
  simp only [List.mem_cons, List.not_mem_nil, or_false, not_or]
  exact ⟨h0, h1, h2, h3, h4, h5, h6, h7, h8⟩


theorem wall_step {l : List UInt8} {k : Nat} {x : UInt8} (hx : l[k]? = some x) (h : ((l.take k).all fun b => wordC b.toNat) = true) (ho : wordC x.toNat = true) : ((l.take (k + 1)).all fun b => wordC b.toNat) = true := by
  rw [List.take_add_one, hx, List.all_append, h]
  simp [ho]
theorem wall_stop {l : List UInt8} {k : Nat} {x : UInt8} (hx : l[k]? = some x) (ho : wordC x.toNat = false) : wordS l = false := by
  unfold wordS
  have : (l.all fun b => wordC b.toNat) = false := by
    cases hq : l.all fun b => wordC b.toNat with
    | false => rfl
    | true =>
      have := List.all_eq_true.1 hq x (List.mem_of_getElem? hx)
      rw [ho] at this
      cases this
  rw [this]; simp
theorem word_short {l : List UInt8} (h : l.length < 1) : wordS l = false := by unfold wordS; rw [decide_eq_false (by omega)]; simp
theorem word_long {l : List UInt8} (h : 16 < l.length) : wordS l = false := by unfold wordS; rw [decide_eq_false (by omega : ¬ l.length ≤ 16)]; simp
theorem word_head {l : List UInt8} {x : UInt8} (hx : l[0]? = some x) (h : lowC x.toNat = false) : wordS l = false := by
  unfold wordS
  cases l with
  | nil => simp at hx
  | cons c m =>
    simp at hx
    subst hx
    simp [h]
theorem word_kept {l : List UInt8} (h : decide (l ∈ keptL) = true) : wordS l = false := by unfold wordS; rw [h]; simp
theorem word_is {l : List UInt8} {x : UInt8} (h1 : ¬ l.length < 1) (h2 : ¬ 16 < l.length) (hx : l[0]? = some x) (h : lowC x.toNat = true) (hk : decide (l ∈ keptL) = false) (ha : (l.all fun b => wordC b.toNat) = true) : wordS l = true := by
  unfold wordS
  cases l with
  | nil => simp at hx
  | cons c m =>
    simp at hx
    subst hx
    rw [decide_eq_true (by omega), decide_eq_true (by omega), hk, ha]
    simp [h]

end Go.Proofs.Ytommcdgognlfcaa
