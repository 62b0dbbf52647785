/-
  The pairs of whole numbers that the statements of layer 3 take: opened, and as numbers of the field. No condition.
-/
import Derived.Test.YtlnlflhoieiloaaGauL
import Derived.ProofKit
import Derived.OpenShut
import Derived.Lib.SmallJoins
import Derived.StillTailTactics
namespace Go.Proofs.Ytlnlflhoieiloaa
open Go.RowKit Gau Go.ChangeShapes Go.WideShapes Go.Joins
set_option linter.unusedVariables false

/-- A whole number of 64 bits. -/
def I64 (n : Int) : Prop := -9223372036854775808 ≤ n ∧ n ≤ 9223372036854775807

theorem of_z (re im : Int) (h : I64 re) (h2 : I64 im) (w : World) :
    Calls Try.prog 7 #[.agg #[.int .i64 re, .int .i64 im]] w fun e w' => e = .returned (.tuple #[cz (gI re im), rz (gI re im)]) ∧ Below w.heap.size w w' :=
  of_law re im h.1 h.2 h2.1 h2.2 w

theorem z_cells : Try.prog.cellsOf 23 = 2 := by kernel_rfl

/-- A pair of whole numbers that came in. -/
theorem open_z {H : Type} {enc : TypeId × Value → H} {W : World} {base : Nat} {v : Value} {d : DataW H} {p : List MemPlace}
    (ok : Value.okWide Try.prog W .any base 23 v) (h : DataW.Trod enc Try.prog W 0 (fun _ => true) true 23 v d p) :
    ∃ x y : Int, v = .agg #[.int .i64 x, .int .i64 y] ∧ I64 x ∧ I64 y := by
  obtain ⟨c0, c1, y0, y1, m, rfl, rfl, rfl, k0, k1⟩ := open_agg2 Try.underlying23 (by kernel_rfl) z_cells ok h
  obtain ⟨n, e0, _, wn⟩ := DataW.trod_int Try.underlying3 k0
  obtain ⟨i, e1, _, wi⟩ := DataW.trod_int Try.underlying3 k1
  simp at e0 e1
  subst e0 e1
  have hn : -9223372036854775808 ≤ n ∧ n ≤ 9223372036854775807 := by simpa [Lit.wf, IntKind.min, IntKind.max, IntKind.signed, IntKind.bits] using wn
  have hi : -9223372036854775808 ≤ i ∧ i ≤ 9223372036854775807 := by simpa [Lit.wf, IntKind.min, IntKind.max, IntKind.signed, IntKind.bits] using wi
  exact ⟨n, i, rfl, hn, hi⟩


theorem parts_zero (a : G) : a = zero ↔ ((a.re.val : Int) = 0 ∧ (a.im.val : Int) = 0) := by
  constructor
  · rintro rfl; exact ⟨rfl, rfl⟩
  · rintro ⟨h1, h2⟩
    cases a with
    | mk x y =>
      have hx : x = 0 := Fin.ext (by simp at h1 ⊢; omega)
      have hy : y = 0 := Fin.ext (by simp at h2 ⊢; omega)
      subst hx hy; rfl

/-- The program's number and the document's are the same. -/
def SameZ (x y : Value) : Prop := ∃ a : G, x = cz a ∧ y = rz a
theorem SameZ.mk (a : G) : SameZ (cz a) (rz a) := ⟨a, rfl, rfl⟩
theorem is_same (x y : Value) (h : SameZ x y) (w : World) :
    Calls Try.prog 8 #[x, y] w fun e w' => e = .returned (.bool true) ∧ Below w.heap.size w w' := by
  obtain ⟨a, rfl, rfl⟩ := h
  exact is_yes a w

/-- A region that only reads and calls quietly, but for its last operations: the world behind its draw under a new name, of which R is known. -/
theorem wp_still_tail {P : Program} {id : Nat} {Q : Exit → Act → World → Prop} {a : Act} {w : World} {l : List Oper} (n : Nat) (hm : P.follows .mixedOrders = true) (hB : Region.lexTailB .any l.toArray n = true)
    (R : World → Prop) (hR : R w.drew) (h : ∀ w2, R w2 → wpStill P l.toArray w2 (fun a' => wpList P l.toArray Q (l.drop n) a' w2) (l.take n) a) : (Code.region id l.toArray true).wp P Q a w :=
  wp_region_still_tail n hm hB (h w.drew hR)
end Go.Proofs.Ytlnlflhoieiloaa
