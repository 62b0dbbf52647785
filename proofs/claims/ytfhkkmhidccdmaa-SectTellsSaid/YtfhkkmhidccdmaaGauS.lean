/-
  The document's powers of layer 3, over the loaded program: power, Inv, Pow: each one's contract.
  No condition but the sizes that each contract names.
-/
import Derived.Test.YtfhkkmhidccdmaaGauR
namespace Go.Proofs.Ytfhkkmhidccdmaa
open Go.RowKit Gau
set_option linter.unusedVariables false

/-- Three new blocks. -/
theorem three (w : World) (a b c : Array Value) (t : TypeId) :
    KB (((w.alloc (.cells a t)).alloc (.cells b t)).alloc (.cells c t)) w.heap.size t a ∧ KB (((w.alloc (.cells a t)).alloc (.cells b t)).alloc (.cells c t)) (w.heap.size + 1) t b ∧
    KB (((w.alloc (.cells a t)).alloc (.cells b t)).alloc (.cells c t)) (w.heap.size + 2) t c ∧ Below w.heap.size w (((w.alloc (.cells a t)).alloc (.cells b t)).alloc (.cells c t)) := by
  refine ⟨((KB.new w t a).alloc _).alloc _, ?_, ?_, (((Below.refl _ _).alloc (Nat.le_refl _) _).alloc (by simp) _).alloc (by simp only [alloc_size]; omega) _⟩
  · have h := (KB.new (w.alloc (.cells a t)) t b).alloc (.cells c t)
    rwa [alloc_size] at h
  · have h := KB.new ((w.alloc (.cells a t)).alloc (.cells b t)) t c
    rwa [alloc_size, alloc_size] at h

theorem half_less (m : Nat) (hp : 0 < m) (h : wrap64 ((m : Int) / 2) = (m : Int) / 2) : (intOf (.int .i64 (wrap64 ((m : Int) / 2)))).toNat < (intOf (.int .i64 (m : Int))).toNat := by
  rw [h]
  show ((m : Int) / 2).toNat < (m : Int).toNat
  omega

end Go.Proofs.Ytfhkkmhidccdmaa
