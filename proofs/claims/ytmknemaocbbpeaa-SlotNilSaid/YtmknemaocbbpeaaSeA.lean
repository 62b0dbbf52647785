/-
  Zero and Empty of sect, over the loaded program: each one's contract. No condition.
-/
import Derived.Test.YtmknemaocbbpeaaSectM
import Derived.Test.YtmknemaocbbpeaaMarkB
import Derived.Test.YtmknemaocbbpeaaRow
namespace Go.Proofs.Ytmknemaocbbpeaa
open Go.RowKit Gau
set_option maxRecDepth 100000
set_option linter.unusedVariables false

/-- A block of 256 bytes that was made. -/
def Made256 (w : World) (e : Ending) (w' : World) : Prop :=
  e = .returned (.slice (some ⟨w.heap.size, 0, none⟩) 256 256) ∧ KB w' w.heap.size 5 ((zs 256).map bv).toArray ∧ Below w.heap.size w w'

theorem kb_256 {w : World} {g : Nat} {l : List UInt8} (h : KB w g 5 (l.map bv).toArray) (hl : l.length = 256) : BS w (fun b => b = g) (.slice (some ⟨g, 0, none⟩) 256 256) l := by
  refine ⟨_, 256, by rw [hl], by rw [hl]; exact Nat.le_refl _, by unfold maxLen; omega, (fun h => by cases h), fun _ => ⟨g, 0, rfl, rfl, h.lt, fun j u hu => ?_⟩⟩
  rw [Nat.zero_add, h.cell]
  simp [hu]

/-- What make([]byte, 256) does. -/
theorem make_256 (w : World) : ∃ C, C = ((zs 256).map bv).toArray ∧ (Instr.makeSlice 36 (.int .i64 256) (.int .i64 256)).run Try.prog w = .ok (.slice (some ⟨w.heap.size, 0, none⟩) 256 256) (w.alloc (.cells C 5)) := by
  obtain ⟨i0, hi, hz0, hz1, hz2⟩ := info_parts info_byte
  have hmk := run_make (P := Try.prog) w 36 5 i0 _ Try.underlying36 hi hz0 .i64 .i64 256 256 (by omega) (by omega) (by rw [hz2]; omega) (by omega)
  rw [hz1] at hmk
  have e256 : (256 : Int).toNat = 256 := rfl
  rw [e256, madeCells_of (.int .u8 0) (bv 0) 1 256 (by omega) rfl, Nat.mul_one] at hmk
  refine ⟨Array.replicate 256 (bv 0), ?_, hmk⟩
  unfold zs
  rw [List.map_replicate, List.toArray_replicate]

theorem zero_any (w : World) : Calls Try.prog 27 #[] w (Made256 w) := by
  obtain ⟨C, hC, hmk⟩ := make_256 w
  go_enter Try.func27, Try.ntmps27
  go_wp2
  go_ret
  exact ⟨rfl, by rw [← hC]; exact KB.new _ _ _, (Below.refl _ _).alloc (Nat.le_refl _) _⟩

/-- Empty. -/
theorem empty_any (S : Nat → Prop) (v : Value) (l : List UInt8) (w : World) (h : BS w S v l) :
    Calls Try.prog 25 #[v] w fun e w' => e = .returned (.bool (decide (l = zs 256))) ∧ Below w.heap.size w w' := by
  obtain ⟨A, c, rfl, _⟩ := h.form
  go_enter Try.func25, Try.ntmps25
  go_wp2_with fail
  refine (zero_any w).mono ?_
  rintro e w1 ⟨rfl, k1, b1⟩
  have he := equal_any _ _ _ _ _ _ w1 (h.below' b1) (kb_256 k1 (zs_len 256))
  go_wp2_with fail
  refine he.mono ?_
  rintro e w2 ⟨rfl, rfl⟩
  go_wp2
  go_ret
  exact ⟨rfl, b1⟩
end Go.Proofs.Ytmknemaocbbpeaa
