/-
  Arrays of 32 bytes over the loaded program: compared, and read whole in a region that draws its order. No condition.
-/
import Derived.Test.YtjcdkfnjlmofiaaDoorStr
import Derived.Test.YtjcdkfnjlmofiaaDoorRow
import Derived.Test.YtjcdkfnjlmofiaaDoorBase
namespace Go.Proofs.YtjcdkfnjlmofiaaDoor
open Go.RowKit
set_option linter.unusedVariables false

theorem size_byte : ∀ w : World, (sizeOf 5).run Tryd.prog w = .ok 1 w := fun w => by
  obtain ⟨i0, hi, _, hz1, _⟩ := info_parts info_byte
  simp [sizeOf, typeInfo, hi, hz1]

theorem eq32 (xs ys : List UInt8) (hx : xs.length = 32) (hy : ys.length = 32) (W : World) : (Op.equalIn 10000 24 (.agg (xs.map bv).toArray) (.agg (ys.map bv).toArray)).run Tryd.prog W = .ok (xs == ys) W :=
  eq_bytes (P := Tryd.prog) W 9998 24 5 32 Tryd.underlying24 Tryd.underlying5 size_byte xs ys hx hy

theorem same32 (xs : List UInt8) (h : xs.length = 32) (W : World) : (Op.equalIn 10000 24 (.agg (xs.map bv).toArray) (.agg (xs.map bv).toArray)).run Tryd.prog W = .ok true W := by
  have := eq32 xs xs h h W
  simpa using this

theorem load32 {d : Option Tmp} {x : Operand} {t : TypeId} {pos : String} {after : Array Edge} {gd : Option (Nat × Bool)} {a : Act} {w : World} {K : Act → World → Prop} {Q : Exit → Act → World → Prop}
    (hx : a.eval x = .pointer (some ⟨ptrBlock (a.eval x), 0, none⟩)) (h : (rowOf w (ptrBlock (a.eval x))).size = 32) :
    Oper.wp Tryd.prog { dst := d, op := Op.load 24 x, type := t, pos := pos, after := after, guard := gd } a w K Q = K (a.put d (.agg (rowOf w (ptrBlock (a.eval x))))) w :=
  wp_load_rowOf Tryd.underlying24 (by kernel_rfl) (by omega) hx h

/-- A block of n cells, known whole. -/
def Full (w : World) (g n : Nat) : Prop := ∃ t cs, KB w g t cs ∧ cs.size = n
theorem KB.full {w : World} {g n : Nat} {t : TypeId} {cs : Array Value} (h : KB w g t cs) (hn : cs.size = n) : Full w g n := ⟨t, cs, h, hn⟩
def aggOf (v : Value) : Array Value := match v with
  | .agg cs => cs
  | _ => #[]
theorem aggOf_mk (cs : Array Value) : aggOf (.agg cs) = cs := rfl
/-- n values of one cell each. -/
def Plain (cs : Array Value) (n : Nat) : Prop := cs.size = n ∧ cs.all (·.oneCell') = true
/-- A block written over whole. -/
def setAll (w : World) (g : Nat) (cs : Array Value) : World := w.setCells g 0 cs.toList
theorem KB.setAll {w : World} {g : Nat} {t : TypeId} {cs vs : Array Value} (h : KB w g t cs) (hn : vs.size = cs.size) : KB (setAll w g vs) g t vs := by
  have := KB.setCells (t := t) vs.toList 0 w cs.toList (by simpa using h) (by simp; omega)
  rw [splice_all _ _ (by simp; omega)] at this
  unfold Proofs.YtjcdkfnjlmofiaaDoor.setAll
  simpa using this
theorem grown_setAll (w : World) (g : Nat) (vs : Array Value) : w.grownBy (setAll w g vs) (some g) := grown_cells w g _ _ _
theorem setAll_size (w : World) (g : Nat) (vs : Array Value) : (setAll w g vs).heap.size = w.heap.size := by
  have h : ∀ (vs : List Value) (o : Nat) (w : World), (w.setCells g o vs).heap.size = w.heap.size := by
    intro vs
    induction vs with
    | nil => intro o w; rfl
    | cons v r ih => intro o w; exact (ih (o + 1) _).trans (by simp [World.setCell])
  exact h _ _ _

theorem store32 {d : Option Tmp} {x y : Operand} {t : TypeId} {pos : String} {after : Array Edge} {gd : Option (Nat × Bool)} {a : Act} {w : World} {K : Act → World → Prop} {Q : Exit → Act → World → Prop}
    (hx : a.eval x = .pointer (some ⟨ptrBlock (a.eval x), 0, none⟩)) (hy : a.eval y = .agg (aggOf (a.eval y))) (h : Full w (ptrBlock (a.eval x)) 32) (hp : Plain (aggOf (a.eval y)) 32) :
    Oper.wp Tryd.prog { dst := d, op := Op.store 24 x y, type := t, pos := pos, after := after, guard := gd } a w K Q = K (a.put d undef) (setAll w (ptrBlock (a.eval x)) (aggOf (a.eval y))) := by
  obtain ⟨t', cs, hk, hn⟩ := h
  obtain ⟨p1, p2⟩ := hp
  generalize aggOf (a.eval y) = vs at *
  generalize ptrBlock (a.eval x) = g at *
  have hr := run_storeAt_mid (P := Tryd.prog) w g 0 24 vs (KB.there (cs := cs.toList) (by simpa using hk) 0 _ (by simp; omega)) (by rw [p1]; kernel_rfl) p2
  unfold Oper.wp execOp
  simp only [hx, hy, Sem.run_bind, hr, Result.andThen_ok, Sem.run_pure]
  rfl
end Go.Proofs.YtjcdkfnjlmofiaaDoor
