/-
  What the statements of layer 8 hand in: Full; num; live; over the loaded program. No condition.
-/
import Derived.Test.YtmknemaocbbpeaaDkD
import Derived.Test.YtmknemaocbbpeaaDkE
import Derived.Test.YtmknemaocbbpeaaSame
namespace Go.Proofs.Ytmknemaocbbpeaa
open Go.RowKit
set_option maxRecDepth 100000
set_option linter.unusedVariables false

def full (c : UInt8) : List UInt8 := List.replicate 256 c
theorem full_len (c : UInt8) : (full c).length = 256 := List.length_replicate
theorem full_inj {c d : UInt8} (h : full c = full d) : c = d := by
  have h1 : c ∈ full d := by rw [← h]; exact List.mem_replicate.2 ⟨by omega, rfl⟩
  exact List.eq_of_mem_replicate h1

/-- What Full hands back: a block of 256 bytes c. -/
def Filled (w : World) (c : UInt8) (e : Ending) (w' : World) : Prop :=
  e = .returned (.slice (some ⟨w.heap.size, 0, none⟩) 256 256) ∧ KB w' w.heap.size 5 ((full c).map bv).toArray ∧ Below w.heap.size w w'

theorem fill_at {n k : Nat} (c : Value) (h : k < n) : (List.replicate k c ++ List.replicate (n - k) (bv 0)).toArray[k]? = some (bv 0) := by
  rw [List.getElem?_toArray, List.getElem?_append_right (by rw [List.length_replicate]; exact Nat.le_refl _), List.length_replicate, Nat.sub_self, List.getElem?_replicate, if_pos (by omega)]
theorem fill_set {n k : Nat} (c : Value) (h : k < n) : (List.replicate k c ++ List.replicate (n - k) (bv 0)).toArray.setIfInBounds k c = (List.replicate (k + 1) c ++ List.replicate (n - (k + 1)) (bv 0)).toArray := by
  rw [List.setIfInBounds_toArray, List.set_append_right _ _ (by rw [List.length_replicate]; exact Nat.le_refl _), List.length_replicate, Nat.sub_self]
  obtain ⟨m, hm⟩ : ∃ m, n - k = m + 1 := ⟨n - k - 1, by omega⟩
  rw [hm, List.replicate_succ, List.set_cons_zero, show n - (k + 1) = m from by omega, List.replicate_succ' (n := k)]
  simp

end Go.Proofs.Ytmknemaocbbpeaa
