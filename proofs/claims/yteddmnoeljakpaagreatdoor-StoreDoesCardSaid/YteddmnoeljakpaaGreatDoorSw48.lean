/-
  SuS: clean of the law, over the loaded program. No condition but what each theorem names.
-/
import Derived.Test.YteddmnoeljakpaaGreatDoorSw47
import Derived.Test.YteddmnoeljakpaaGreatDoorSw17
set_option linter.unusedVariables false
set_option maxRecDepth 100000
namespace Go.Proofs.YteddmnoeljakpaaGreatDoor
section
open Go.RowKit
def someK (c : Cn) (s : Dk) (k : Nat) : Nat := (List.range k).countP fun i => !decide (s.now (c.base + i) = zs 256)
theorem someK_succ (c : Cn) (s : Dk) (k : Nat) : someK c s (k + 1) = someK c s k + if s.now (c.base + k) = zs 256 then 0 else 1 := by
  unfold someK
  rw [List.range_succ, List.countP_append]
  by_cases h : s.now (c.base + k) = zs 256 <;> simp [h]
theorem someK_le (c : Cn) (s : Dk) (k : Nat) : someK c s k ≤ k := by
  unfold someK
  have := List.countP_le_length (p := fun i => !decide (s.now (c.base + i) = zs 256)) (l := List.range k)
  rwa [List.length_range] at this
theorem some_used {c : CI} {fl : List Fe} {s : Dk} (hr : Rest c fl s) : someK c.cn s c.cn.data ≤ pagesF fl := by
  rw [← used_us hr.fine]
  unfold countS selK someK
  rw [usF_len, ← List.countP_eq_length_filter]
  refine List.countP_mono_left fun i hi h => ?_
  have hlt := List.mem_range.1 hi
  have hne : ¬ s.now (c.cn.base + i) = zs 256 := by simpa using h
  rw [hr.stands.2.2 _ (by unfold Cn.base; omega) (by unfold Cn.base Cn.size; omega)] at hne
  unfold usedF usF
  rw [List.getD_eq_getElem?_getD, List.getElem?_map, List.getElem?_range hlt, Option.map_some, Option.getD_some, List.any_eq_true]
  exact Classical.byContradiction fun hno => hne (img_spare hr.fine fun x hx hm => hno ⟨x, hx, decide_eq_true hm⟩)
end
end Go.Proofs.YteddmnoeljakpaaGreatDoor
