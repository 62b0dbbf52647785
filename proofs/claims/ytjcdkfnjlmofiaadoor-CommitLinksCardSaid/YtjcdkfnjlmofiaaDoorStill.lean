/-
  A region that draws its order and only reads and calls quietly, but for its last operations: over any program. No condition.
-/
import Derived.StillTailTactics
namespace Go.Proofs.YtjcdkfnjlmofiaaDoor
set_option linter.unusedVariables false

/-- A region that only reads and calls quietly, but for its last operations: the world behind its draw under a new name, of which R is known. -/
theorem wp_still_tail {P : Program} {id : Nat} {Q : Exit → Act → World → Prop} {a : Act} {w : World} {l : List Oper} (n : Nat) (hm : P.follows .mixedOrders = true) (hB : Region.lexTailB .any l.toArray n = true)
    (R : World → Prop) (hR : R w.drew) (h : ∀ w2, R w2 → wpStill P l.toArray w2 (fun a' => wpList P l.toArray Q (l.drop n) a' w2) (l.take n) a) : (Code.region id l.toArray true).wp P Q a w :=
  wp_region_still_tail n hm hB (h w.drew hR)
end Go.Proofs.YtjcdkfnjlmofiaaDoor
