/-
  TermSame: whether two terms are the same, the parts of one, what is made of two: the law, for every input. No condition but that the table lies as the row says.
-/
import Derived.Test.YtmepcdljobdigaaDoorTermSameU
import Derived.Test.YtmepcdljobdigaaDoorTermSameV
namespace Go.Proofs.YtmepcdljobdigaaDoor
open Go.RowKit Go.ChangeShapes Go.WideShapes Go.Joins
set_option linter.unusedVariables false

theorem termSame_law {H : Type} (enc : TypeId × Value → H) (W : World) (base : Nat) (ht : Shp W) (v0 : Value) (d0 : DataW H) (p0 : List MemPlace) (v1 : Value) (d1 : DataW H) (p1 : List MemPlace) (v2 : Value) (d2 : DataW H) (p2 : List MemPlace)
    (ok0 : Value.okWide Tryd.prog W .any base 26 v0) (ok1 : Value.okWide Tryd.prog W .any base 26 v1) (ok2 : Value.okWide Tryd.prog W .any base 22 v2)
    (h0 : DataW.Trod enc Tryd.prog W 0 (fun _ => true) true 26 v0 d0 p0) (h1 : DataW.Trod enc Tryd.prog W 0 (fun _ => true) true 26 v1 d1 p1) (h2 : DataW.Trod enc Tryd.prog W 0 (fun _ => true) true 22 v2 d2 p2) :
    Calls Tryd.prog 5 #[v0, v1, v2] W fun e W' => e = .returned (.bool true) ∧ Below W.heap.size W W' := by
  obtain ⟨n, rfl, rfl, rfl, w0⟩ := open_int Tryd.underlying22 ok2 h2
  have hn : 0 ≤ n ∧ n ≤ 18446744073709551615 := by simpa [Lit.wf, IntKind.min, IntKind.max, IntKind.signed, IntKind.bits] using w0
  obtain ⟨n', rfl⟩ := Int.eq_ofNat_of_zero_le hn.1
  obtain ⟨na, ha⟩ := open_term ok0 h0
  obtain ⟨nb, hb⟩ := open_term ok1 h1
  obtain ⟨a, ta⟩ := ha (max na nb) (Nat.le_max_left _ _)
  obtain ⟨b, tb⟩ := hb (max na nb) (Nat.le_max_right _ _)
  cases hm : mayT (max na nb) a 8 with
  | true => exact termSame_may _ _ a b v0 v1 n' (by omega) W (fun b h => h) ht ta tb hm
  | false => exact termSame_not _ _ a b v0 v1 n' (by omega) W (fun b h => h) ht ta tb hm
end Go.Proofs.YtmepcdljobdigaaDoor
