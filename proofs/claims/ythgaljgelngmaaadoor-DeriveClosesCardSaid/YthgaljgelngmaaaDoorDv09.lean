/-
  TpTab: What the listed table of kinds gives the walks: its cells hold each kind's shape. No condition.
-/
import Derived.Test.YthgaljgelngmaaaDoorRows
import Derived.Test.YthgaljgelngmaaaDoorDv08
import Derived.ProofKit
import Derived.LaidMore
import Derived.OpenShut
import Derived.FnData

section
namespace Go.Proofs.YthgaljgelngmaaaDoor
open Go.ChangeShapes Go.WideShapes Go.ChangeAt Go.RowKit
set_option linter.unusedVariables false

theorem tShapes : (Tryd.prog.globals[0]?).map (·.type) = some 75 := by kernel_rfl
theorem cells_bool1 : Tryd.prog.cellsOf 4 = 1 := by kernel_rfl
theorem cells_int1 : Tryd.prog.cellsOf 3 = 1 := by kernel_rfl
theorem cells_shape : Tryd.prog.cellsOf 72 = 3 := by kernel_rfl
theorem cells_shapes : Tryd.prog.cellsOf 75 = 21 := by kernel_rfl

def shpL : List (Bool × Bool × Int) := [(false, false, 0), (true, false, 0), (true, false, 0), (false, true, 0), (false, false, 2), (true, false, 2), (false, false, 1)]
theorem shapes_data : (Rows.laid_hanaper_term_shapes : DataW Unit) = .agg (shpL.map fun x => .agg [.lit (.bool x.1), .lit (.bool x.2.1), .lit (.int .i64 x.2.2)]) := by kernel_rfl
theorem shpL_at (k : Nat) (h : k < 7) : shpL[k]? = some (numK k, decide ((k : Int) = 3), kidsP k) := by
  have : k = 0 ∨ k = 1 ∨ k = 2 ∨ k = 3 ∨ k = 4 ∨ k = 5 ∨ k = 6 := by omega
  rcases this with rfl | rfl | rfl | rfl | rfl | rfl | rfl <;> rfl

theorem three_of {cs : List Value} (h : cs.length = 3) : ∃ c0 c1 c2, cs = [c0, c1, c2] := by
  match cs, h with
  | [a, b, c], _ => exact ⟨a, b, c, rfl⟩

set_option maxRecDepth 100000 in
theorem shp_of_laid {W : World} {s : String} (hs : Tryd.prog.globalNamed s = some 0) (h : laidMetH Tryd.prog [(s, Rows.laid_hanaper_term_shapes)] W) : Shp W := by
  rw [MakeChecks.laidMetH_plain _ _ _ (by kernel_rfl)] at h
  obtain ⟨ps, ⟨g0, t0, cs0, f0, p0, q0, hg0, ht0, hv0, hd0, _, _⟩, _, _⟩ := h
  obtain rfl := Option.some.inj (hs.symm.trans hg0)
  obtain rfl := Option.some.inj (tShapes.symm.trans ht0)
  rw [shapes_data] at hd0
  obtain ⟨xs, m1, rfl, hx1, hlen, hn, hel⟩ := DataW.trod_array Tryd.underlying75 hd0
  simp only [Prod.mk.injEq, DataW.agg.injEq] at hx1
  rw [cells_shapes] at hlen
  have hcell : ∀ k : Nat, k < 7 → ∀ (j : Nat) (v : Value), (#[Value.bool (numK k), .bool (decide ((k : Int) = 3)), .int .i64 (kidsP k)] : Array Value)[j]? = some v → W.cell? ⟨0, k * 3 + j, none⟩ = some v := by
    intro k hk j v hj
    have h0 := hel k hk
    rw [cells_shape] at h0
    have hix : xs[k]? = some (xs[k]'(by omega)) := List.getElem?_eq_getElem (by omega)
    rw [hix] at h0
    have hxi : (xs[k]'(by omega)).1 = .agg [.lit (.bool (numK k)), .lit (.bool (decide ((k : Int) = 3))), .lit (.int .i64 (kidsP k))] := by
      have := congrArg (fun l => l[k]?) hx1.1
      simp only [List.getElem?_map, hix, shpL_at k hk, Option.map_some] at this
      exact (Option.some.inj this).symm
    obtain ⟨ys, m2, rfl, hy, hl3, hyl, hf⟩ := DataW.trod_struct Tryd.underlying72 h0
    rw [cells_shape] at hl3
    obtain ⟨c0, c1, c2, hc3⟩ := three_of hl3
    rw [hc3] at hf
    obtain ⟨y0, y1, y2, rfl⟩ : ∃ y0 y1 y2, ys = [y0, y1, y2] := by
      match ys, hyl with
      | [a, b, c], _ => exact ⟨a, b, c, rfl⟩
    have g0 : DataW.trod _ Tryd.prog W 0 _ _ m2 4 (List.take (Tryd.prog.cellsOf 4) [c0, c1, c2]) = some y0 := hf 0 _ rfl
    have g1 : DataW.trod _ Tryd.prog W 0 _ _ m2 4 (List.take (Tryd.prog.cellsOf 4) [c1, c2]) = some y1 := hf 1 _ rfl
    have g2 : DataW.trod _ Tryd.prog W 0 _ _ m2 3 (List.take (Tryd.prog.cellsOf 3) [c2]) = some y2 := hf 2 _ rfl
    rw [cells_bool1] at g0 g1
    rw [cells_int1] at g2
    obtain ⟨b0, e0, x0⟩ := DataW.trod_bool Tryd.underlying4 g0
    obtain ⟨b1, e1, x1⟩ := DataW.trod_bool Tryd.underlying4 g1
    obtain ⟨n2, e2, x2, _⟩ := DataW.trod_int Tryd.underlying3 g2
    simp at e0 e1 e2
    subst e0 e1 e2 x0 x1 x2
    rw [hy] at hxi
    simp only [List.map_cons, List.map_nil, DataW.agg.injEq, List.cons.injEq, DataW.lit.injEq, Lit.bool.injEq, Lit.int.injEq, and_true, true_and] at hxi
    obtain ⟨rfl, rfl, rfl⟩ := hxi
    rw [World.var?_cell hg0 hv0 (k * 3 + j)]
    have hj3 : j < 3 := by
      have := (Array.getElem?_eq_some_iff.1 hj).1
      simpa using this
    have hcs : cs0.toList[k * 3 + j]? = some v := by
      have h5 := congrArg (fun l => l[j]?) hc3
      simp only [List.getElem?_take, List.getElem?_drop, if_pos hj3] at h5
      rw [h5]
      have : j = 0 ∨ j = 1 ∨ j = 2 := by omega
      rcases this with rfl | rfl | rfl <;> simpa using hj
    rw [← Array.getElem?_toList]; exact hcs
  refine ⟨World.block_lt_of_cell? W _ (hcell 0 (by omega) 0 _ rfl), fun k hk => ⟨hcell k hk 0 _ rfl, hcell k hk 1 _ rfl, hcell k hk 2 _ rfl⟩⟩
end Go.Proofs.YthgaljgelngmaaaDoor
end
