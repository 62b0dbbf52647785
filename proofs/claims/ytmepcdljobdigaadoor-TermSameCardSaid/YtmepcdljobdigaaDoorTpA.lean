/-
  The program's table of kinds, and what it tells of a kind: its contract over the loaded program. No condition but that the table lies as the row says.
-/
import Derived.Test.YtmepcdljobdigaaDoorTermJ
namespace Go.Proofs.YtmepcdljobdigaaDoor
open Go.RowKit
set_option linter.unusedVariables false

/-- How many kids a kind has; 0, where there is no such kind. -/
def kidsP (k : Int) : Int := if kidsN k < 0 then 0 else kidsN k

/-- The three cells of a kind's shape. -/
def shp (k : Int) : Array Value := #[.bool (numK k), .bool (decide (k = 3)), .int .i64 (kidsP k)]

/-- The table of shapes lies in w. -/
def Shp (w : World) : Prop := 0 < w.heap.size ∧ ∀ k : Nat, k < 7 → w.cell? ⟨0, k * 3, none⟩ = some (.bool (numK k)) ∧
  w.cell? ⟨0, k * 3 + 1, none⟩ = some (.bool (decide ((k : Int) = 3))) ∧ w.cell? ⟨0, k * 3 + 2, none⟩ = some (.int .i64 (kidsP k))

section
variable {w w' : World}
theorem Shp.keep (h : Shp w) (hs : w.heap.size ≤ w'.heap.size) (hk : w'.heap[0]? = w.heap[0]?) : Shp w' := by
  refine ⟨by have := h.1; omega, fun k hk7 => ?_⟩
  have hc := fun (x : Nat) => World.cell?_of_block (w := w) (w' := w') (a := ⟨0, x, none⟩) hk
  obtain ⟨a, b, c⟩ := h.2 k hk7
  exact ⟨(hc _).trans a, (hc _).trans b, (hc _).trans c⟩
theorem Shp.below (h : Shp w) (hb : Below w.heap.size w w') : Shp w' := h.keep hb.size (hb.block _ h.1)
theorem Shp.below' {B : Nat} (h : Shp w) (hb : Below B w w') (h0 : 0 < B) : Shp w' := h.keep hb.size (hb.block _ h0)
theorem Shp.alloc (h : Shp w) (o : Obj) : Shp (w.alloc o) := h.below ((Below.refl _ _).alloc (Nat.le_refl _) o)
theorem Shp.grown {g : Nat} (h : Shp w) (hb : w.grownBy w' (some g)) (hg : 0 < g) : Shp w' := h.keep hb.size (hb.block _ h.1 (by simp; omega))
theorem Shp.grownO {row : Option Nat} (h : Shp w) (hb : w.grownBy w' row) (hg : row ≠ some 0) : Shp w' := h.keep hb.size (hb.block _ h.1 fun e => hg e.symm)
end

theorem put_three {w : World} {g : Nat} {t : TypeId} {a b c x y z : Value} (h : KB w g t #[a, b, c]) : KB (((w.setCell ⟨g, 0, none⟩ x).setCell ⟨g, 1, none⟩ y).setCell ⟨g, 2, none⟩ z) g t #[x, y, z] :=
  ((h.put 0 x).put 1 y).put 2 z

theorem below_three (w : World) (a b c x y z : Value) (t : TypeId) : Below w.heap.size w ((((w.alloc (.cells #[a, b, c] t)).setCell ⟨w.heap.size, 0, none⟩ x).setCell ⟨w.heap.size, 1, none⟩ y).setCell ⟨w.heap.size, 2, none⟩ z) :=
  ((((Below.refl _ _).alloc (Nat.le_refl _) _).setCell (Nat.le_refl _) _).setCell (Nat.le_refl _) _).setCell (Nat.le_refl _) _

set_option maxHeartbeats 400000 in
/-- What the table tells of a kind. -/
theorem shapeOf_any (k : Int) (w : World) (h : Shp w) :
    Calls Tryd.prog 40 #[.int .i64 k] w fun e w' => e = .returned (.agg (shp k)) ∧ Below w.heap.size w w' := by
  by_cases hk : k < 0 ∨ 7 ≤ k
  · have e : shp k = #[.bool false, .bool false, .int .i64 0] := by
      have h1 : numK k = false := by unfold numK; exact decide_eq_false (by omega)
      have h2 : decide (k = 3) = false := decide_eq_false (by omega)
      have h3 : kidsP k = 0 := by unfold kidsP; rw [show kidsN k = -1 by unfold kidsN; rw [if_neg (by omega), if_neg (by omega), if_neg (by omega)]]; rfl
      rw [shp, h1, h2, h3]
    rw [e]
    clear e h
    have K := KB.new w 62 #[.bool false, .bool false, .int .i64 0]
    rcases hk with hk | hk
    · go_enter Tryd.func40, Tryd.ntmps40
      go_wp2_with fail
      refine bodyPost_ret (results_cell_row (P := Tryd.prog) rfl _ _ w.heap.size _ _ (0, 0) _ rfl K Tryd.underlying62 rfl (by kernel_rfl)) rfl ⟨rfl, (Below.refl _ _).alloc (Nat.le_refl _) _⟩
    · go_enter Tryd.func40, Tryd.ntmps40
      go_wp2_with fail
      refine bodyPost_ret (results_cell_row (P := Tryd.prog) rfl _ _ w.heap.size _ _ (0, 0) _ rfl K Tryd.underlying62 rfl (by kernel_rfl)) rfl ⟨rfl, (Below.refl _ _).alloc (Nat.le_refl _) _⟩
  · obtain ⟨n, rfl⟩ : ∃ n : Nat, k = n := ⟨k.toNat, by omega⟩
    have h7 : n < 7 := by omega
    obtain ⟨t0, t1, t2⟩ := (h.alloc (.cells #[.bool false, .bool false, .int .i64 0] 62)).2 n h7
    clear h hk
    unfold shp
    generalize numK (n : Int) = a at *
    generalize decide ((n : Int) = 3) = b at *
    generalize kidsP (n : Int) = c at *
    go_enter Tryd.func40, Tryd.ntmps40
    go_wp2_with fail
    refine bodyPost_ret (results_cell_row (P := Tryd.prog) rfl _ _ w.heap.size _ _ (0, 0) _ rfl (KB.new w 62 #[.bool a, .bool b, .int .i64 c]) Tryd.underlying62 rfl (by kernel_rfl)) rfl ⟨rfl, (Below.refl _ _).alloc (Nat.le_refl _) _⟩
end Go.Proofs.YtmepcdljobdigaaDoor
