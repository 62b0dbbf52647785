/-
  What the listed table gives the walks: its 64 cells hold K; and the start-up's own heap meets the condition. No condition.
-/
import Derived.Test.YtjcdkfnjlmofiaaDoorRows
import Derived.Test.YtjcdkfnjlmofiaaDoorShaC
import Derived.ProofKit
import Derived.LaidMore
import Derived.OpenShut
import Derived.FnData
namespace Go.Proofs.YtjcdkfnjlmofiaaDoor
open Go.ChangeShapes Go.WideShapes Go.ChangeAt Go.RowKit
set_option linter.unusedVariables false

theorem tRoots : (Tryd.prog.globals[0]?).map (·.type) = some 50 := by kernel_rfl
theorem cells_word : Tryd.prog.cellsOf 43 = 1 := by kernel_rfl
theorem cells_table : Tryd.prog.cellsOf 50 = 64 := by kernel_rfl
theorem roots_data : (Rows.laid_hanaper_sha_roots : DataW Unit) = .agg (keysL.map fun (x : Nat) => .lit (.int .u32 (x : Int))) := by kernel_rfl

set_option maxRecDepth 100000 in
theorem tab_of_laid {W : World} {s : String} (hs : Tryd.prog.globalNamed s = some 0) (h : laidMetH Tryd.prog [(s, Rows.laid_hanaper_sha_roots)] W) : Tab W := by
  rw [MakeChecks.laidMetH_plain _ _ _ (by kernel_rfl)] at h
  obtain ⟨ps, ⟨g0, t0, cs0, f0, p0, q0, hg0, ht0, hv0, hd0, _, _⟩, _, _⟩ := h
  obtain rfl := Option.some.inj (hs.symm.trans hg0)
  obtain rfl := Option.some.inj (tRoots.symm.trans ht0)
  rw [roots_data] at hd0
  obtain ⟨xs, m1, rfl, hx1, hlen, hn, hel⟩ := DataW.trod_array Tryd.underlying50 hd0
  simp only [Prod.mk.injEq, DataW.agg.injEq] at hx1
  rw [cells_table] at hlen
  have hcell : ∀ i, i < 64 → W.cell? ⟨0, i, none⟩ = some (.int .u32 ((keysL.getD i 0 : Nat) : Int)) := by
    intro i hi
    have h0 := hel i hi
    rw [cells_word, Nat.mul_one] at h0
    have hix : xs[i]? = some (xs[i]'(by omega)) := List.getElem?_eq_getElem (by omega)
    rw [hix] at h0
    obtain ⟨n, e1, e2, _⟩ := DataW.trod_int Tryd.underlying43 h0
    have hk : i < keysL.length := by rw [keysL_length]; exact hi
    have hxi : (xs[i]'(by omega)).1 = .lit (.int .u32 ((keysL[i] : Nat) : Int)) := by
      have := congrArg (fun l => l[i]?) hx1.1
      simp only [List.getElem?_map, hix, List.getElem?_eq_getElem hk, Option.map_some] at this
      exact (Option.some.inj this).symm
    rw [e2] at hxi
    have hn' : n = ((keysL[i] : Nat) : Int) := by simpa using hxi
    rw [World.var?_cell hg0 hv0 i]
    have hd : cs0.toList[i]? = some (.int .u32 n) := by
      have := congrArg (fun l => l[0]?) e1
      simp only [List.getElem?_take, List.getElem?_drop, Nat.add_zero] at this
      simpa using this
    rw [← Array.getElem?_toList, hd, hn']
    simp [List.getD, List.getElem?_eq_getElem hk]
  exact ⟨Nat.lt_of_le_of_lt (Nat.zero_le _) (World.block_lt_of_cell? W _ (hcell 0 (by omega))), hcell⟩

end Go.Proofs.YtjcdkfnjlmofiaaDoor
