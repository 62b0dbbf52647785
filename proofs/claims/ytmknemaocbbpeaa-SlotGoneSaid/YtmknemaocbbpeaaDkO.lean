/-
  Arguments of the statements of layer 8, opened: a list of acts, and a list of bools. No condition.
-/
import Derived.Test.YtmknemaocbbpeaaArgs
import Derived.Test.YtmknemaocbbpeaaKp
import Derived.Test.YtmknemaocbbpeaaRow
import Derived.Deep.Grids
namespace Go.Proofs.Ytmknemaocbbpeaa
open Go.RowKit Go.ChangeShapes Go.WideShapes Go.Joins
set_option maxRecDepth 100000
set_option linter.unusedVariables false

/-- A list of bools that came in. -/
theorem open_keep {H : Type} {enc : TypeId × Value → H} {W : World} {base : Nat} {v : Value} {d : DataW H} {p : List MemPlace}
    (ok : Value.okWide Try.prog W .any base 23 v) (h : DataW.Trod enc Try.prog W 0 (fun _ => true) true 23 v d p) : ∃ ks : List Bool, CS W (fun b => b < W.heap.size) v (ks.map Value.bool) := by
  obtain ⟨a0, len, cap, rfl⟩ := okWide_slice Try.underlying23 ok
  obtain ⟨fuel, hf⟩ := h
  rcases Deep.open_bools Try.underlying23 Try.underlying4 (by kernel_rfl) hf with ⟨hcs, _⟩ | ⟨a, len', cap', B, hcs, _, hl, hm, _, hc⟩
  · simp [Value.cells] at hcs
    obtain ⟨rfl, rfl, rfl⟩ := hcs
    exact ⟨[], CS.nil _ _⟩
  · simp [Value.cells] at hcs
    obtain ⟨rfl, rfl, rfl⟩ := hcs
    have hlen : (((List.range len).map B).map Value.bool).length = len := by simp
    refine ⟨(List.range len).map B, some a, cap, by rw [hlen], by omega, hm, fun h0 => ?_⟩
    rw [hlen] at h0
    obtain ⟨b, o, spot⟩ := a
    have k0 := hc 0 (by omega)
    have hspot : spot = none := by simpa [Addr.add] using World.cell?_spot k0
    subst hspot
    rw [add_plain] at k0
    refine ⟨b, o, rfl, World.block_lt_of_cell? _ _ k0, World.block_lt_of_cell? _ _ k0, fun j u hu => ?_⟩
    have hj : j < len := by
      have := (List.getElem?_eq_some_iff.1 hu).1
      omega
    have kj := hc j (by omega)
    rw [add_plain] at kj
    rw [kj]
    simpa [hj] using hu

/-- An act, as a law takes it. -/
structure Ac where
  kind : Int
  at_ : Int
  c : UInt8
  short : Bool
  keep : Value
def acRow (a : Ac) : List Value := [.int .i64 a.kind, .int .i64 a.at_, bv a.c, .bool a.short, a.keep]
def Ac.ok (a : Ac) : Prop := (∃ A n c, a.keep = .slice A n c) ∧ -9223372036854775808 ≤ a.kind ∧ a.kind ≤ 9223372036854775807 ∧ -9223372036854775808 ≤ a.at_ ∧ a.at_ ≤ 9223372036854775807

/-- The slice value v reads, in w, as the acts l. -/
def AS (w : World) (v : Value) (l : List Ac) : Prop :=
  ∃ A c, v = .slice A l.length c ∧ l.length ≤ c ∧ c ≤ maxLen ∧ (0 < l.length → ∃ b o, A = some ⟨b, o, none⟩ ∧ b < w.heap.size ∧ ∀ (i : Nat) (a : Ac), l[i]? = some a → a.ok ∧ w.rangeAt b (o + i * 5) (acRow a))
theorem AS.below {w w' : World} {v : Value} {l : List Ac} (h : AS w v l) (hb : Below w.heap.size w w') : AS w' v l := by
  obtain ⟨A, c, e, h1, h2, hx⟩ := h
  refine ⟨A, c, e, h1, h2, fun h0 => ?_⟩
  obtain ⟨b, o, ea, hlt, hx⟩ := hx h0
  refine ⟨b, o, ea, Nat.lt_of_lt_of_le hlt hb.size, fun i a hi => ⟨(hx i a hi).1, fun j u hj => ?_⟩⟩
  exact (World.cell?_of_block (w := w) (hb.block b hlt)).trans ((hx i a hi).2 j u hj)

theorem cells_bool : Try.prog.cellsOf 4 = 1 := by kernel_rfl
theorem cells_i : Try.prog.cellsOf 3 = 1 := by kernel_rfl
theorem cells_bools : Try.prog.cellsOf 23 = 1 := by kernel_rfl

end Go.Proofs.Ytmknemaocbbpeaa
