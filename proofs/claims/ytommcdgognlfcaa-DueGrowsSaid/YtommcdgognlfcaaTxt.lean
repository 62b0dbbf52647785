/-
  Texts (strings) as values: a string of given bytes; its bytes as a slice of the call's own; whether two are the same; a string that came in. General. No condition.
-/
import Derived.Test.YtommcdgognlfcaaArgs
import Derived.Test.YtommcdgognlfcaaStr
import Derived.Test.YtommcdgognlfcaaBase
import Derived.Lib.ConvBytes
namespace Go.Proofs.Ytommcdgognlfcaa
open Go.RowKit Go.ChangeShapes Go.WideShapes Go.Joins
set_option maxRecDepth 100000
set_option linter.unusedVariables false

/-- A text of these bytes. -/
def strV (l : List UInt8) : Value := .string ⟨l.toArray⟩
theorem cells_str : Try.prog.cellsOf 9 = 1 := by kernel_rfl

/-- A text that came in. -/
theorem open_str {H : Type} {enc : TypeId × Value → H} {W : World} {base : Nat} {v : Value} {d : DataW H} {p : List MemPlace}
    (ok : Value.okWide Try.prog W .any base 9 v) (h : DataW.Trod enc Try.prog W 0 (fun _ => true) true 9 v d p) : ∃ l : List UInt8, v = strV l ∧ l.length ≤ maxLen := by
  obtain ⟨n, hn⟩ := h
  obtain ⟨s, hs⟩ := okWide_string Try.underlying9 ok
  subst hs
  obtain ⟨s', e, _, hs⟩ := DataW.trod_string Try.underlying9 hn
  simp [Value.cells] at e
  subst e
  have : s.data.toList.length = s.size := by rw [Array.length_toList]; rfl
  exact ⟨s.data.toList, rfl, by omega⟩

/-- Two texts compared. -/
theorem str_eq (l m : List UInt8) : ((⟨l.toArray⟩ : ByteArray).toList == (⟨m.toArray⟩ : ByteArray).toList) = decide (l = m) := by
  rw [Lib.toList_data, Lib.toList_data]
  show (l == m) = _
  by_cases h : l = m
  · rw [decide_eq_true h]; exact beq_iff_eq.2 h
  · rw [decide_eq_false h]; exact beq_eq_false_iff_ne.2 h

/-- []byte(s). -/
theorem conv_str (w : World) (l : List UInt8) (hl : l.length ≤ maxLen) : ∃ c w', (convert 9 71 (strV l)).run Try.prog w = .ok (.slice (some ⟨w.heap.size, 0, none⟩) l.length c) w' ∧
    BS w' (fun b => w.heap.size ≤ b ∧ b < w'.heap.size) (.slice (some ⟨w.heap.size, 0, none⟩) l.length c) l ∧ Below w.heap.size w w' := by
  refine ⟨_, _, Lib.run_convert_string_bytes (P := Try.prog) w 9 71 5 ⟨l.toArray⟩ (u := .string) Try.underlying9 Try.underlying71 Try.underlying5, ?_, ?_⟩
  · refine ⟨_, _, rfl, grownCap_ge _ _ _ _, grownCap_le_maxLen _ _ _ _ hl, (fun h => by cases h), fun h0 => ⟨w.heap.size, 0, rfl, ⟨Nat.le_refl _, by rw [Lib.bytesWorld_size]; omega⟩, by rw [Lib.bytesWorld_size]; omega, fun j u hu => ?_⟩⟩
    have hj := (List.getElem?_eq_some_iff.1 hu).1
    rw [Nat.zero_add, Lib.bytesWorld_cell w _ ⟨l.toArray⟩ j hj]
    simp [hu]
  · exact ⟨rfl, rfl, rfl, by rw [Lib.bytesWorld_size]; omega, fun j hj => Lib.bytesWorld_at_old w _ _ j hj⟩
end Go.Proofs.Ytommcdgognlfcaa
