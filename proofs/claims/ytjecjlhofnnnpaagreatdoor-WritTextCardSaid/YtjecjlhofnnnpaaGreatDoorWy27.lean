/-
  RuJ: strings.Join, strings.Builder (WriteString, Len, String), over the loaded program: the shelf's contracts in the words of these texts. No condition but sizes.
-/
import Derived.Test.YtjecjlhofnnnpaaGreatDoorLayB
import Derived.Test.YtjecjlhofnnnpaaGreatDoorWy01
import Derived.Shelf.Strings.OnBuilder
import Derived.Shelf.Strings.Builder1
set_option linter.unusedVariables false
set_option maxRecDepth 100000
namespace Go.Proofs.YtjecjlhofnnnpaaGreatDoor
section
open Go.RowKit Go.Shelf
theorem extraJ : Builder.Extra Tryz.prog Tryz.laysJoin_ren where
  sizeBuilder := by kernel_rfl
  liesBuilder := by kernel_rfl
  t5 := Tryz.underlying5
  a5 := Tryz.isAgg5
  z5 := Tryz.sizeOf5
  v5 := Tryz.zeroValue5
  infoByte := by kernel_rfl
  cellsByte := by kernel_rfl
  sizeByte := by kernel_rfl
  neB5 := by decide
theorem join_any (bk o c : Nat) (xs : List (List UInt8)) (sep : List UInt8) (w : World) (hcells : ∀ (j : Nat) x, xs[j]? = some x → w.cell? ⟨bk, o + j, none⟩ = some (strV x))
    (hbk : bk < w.heap.size) (hN : xs.length ≤ 1000000000) (hcap : xs.length ≤ c) (hlen : (Lib.join xs sep).length ≤ 1000000000) :
    Calls Tryz.prog 24 #[.slice (some ⟨bk, o, none⟩) xs.length c, strV sep] w fun e w' => e = .returned (strV (Lib.join xs sep)) ∧ Below w.heap.size w w' := by
  have e : (xs.map fun x => (⟨x.toArray⟩ : ByteArray)).map (·.data.toList) = xs := by
    rw [List.map_map]
    have : ((fun b : ByteArray => b.data.toList) ∘ fun x : List UInt8 => (⟨x.toArray⟩ : ByteArray)) = id := by funext x; rfl
    rw [this, List.map_id]
  have h := Any.strings_Join Tryz.laysJoin extraJ bk o c (xs.map fun x => (⟨x.toArray⟩ : ByteArray)) ⟨sep.toArray⟩ w (fun j x hx => by
    rw [List.getElem?_map] at hx
    cases hq : xs[j]? with
    | none => rw [hq] at hx; cases hx
    | some y =>
      rw [hq] at hx
      simp only [Option.map_some, Option.some.injEq] at hx
      subst hx
      exact hcells j y hq) hbk (by rw [List.length_map]; omega) (by rw [List.length_map]; exact hcap) (by rw [e]; show (Lib.join xs sep).length ≤ _; omega)
  rw [e, List.length_map] at h
  exact h
def Bld (w : World) (B b : Nat) (l : List UInt8) : Prop := Lib.IsBuilder 67 5 B b (Lib.byteCells l) w
theorem write_any (B b : Nat) (l s : List UInt8) (w : World) (h : Bld w B b l) (hlen : l.length + s.length ≤ 1000000000) (hB : B ≤ w.heap.size) :
    Calls Tryz.prog 39 #[.pointer (some ⟨b, 0, none⟩), strV s] w fun e w' => e = .returned (.tuple #[.int .i64 (s.length : Int), .nilIface]) ∧ Bld w' B b (l ++ s) ∧ Below B w w' := by
  have h := Any.Builder_WriteString { Tryz.laysJoin with } extraJ B b (Lib.byteCells l) ⟨s.toArray⟩ w h (by
    have e1 : (Lib.byteCells l).length = l.length := by simp [Lib.byteCells]
    have e2 : (⟨s.toArray⟩ : ByteArray).size = s.length := rfl
    rw [e1, e2]; omega) hB
  refine h.mono ?_
  rintro e w' ⟨rfl, h1, h2⟩
  refine ⟨rfl, ?_, h2⟩
  have e3 : Lib.byteCells (l ++ s) = Lib.byteCells l ++ Lib.strCells ⟨s.toArray⟩ := by simp [Lib.byteCells, Lib.strCells]
  unfold Bld
  rw [e3]
  exact .inr h1
theorem string_any (B b : Nat) (l : List UInt8) (w : World) (h : Bld w B b l) (hB : B ≤ w.heap.size) :
    Calls Tryz.prog 40 #[.pointer (some ⟨b, 0, none⟩)] w fun e w' => e = .returned (strV l) ∧ Below B w w' :=
  Any.Builder_String_any { Tryz.laysJoin with } extraJ B b l w h hB
theorem bld_new (w : World) : Bld (w.alloc (.cells #[.pointer none, .slice none 0 0] 67)) w.heap.size w.heap.size [] := by
  refine .inl ⟨Nat.le_refl _, .slice none 0 0, ?_, ?_, by simp [Value.ownBlock]⟩
  · show (w.heap.push _)[w.heap.size]? = _
    rw [Array.getElem?_push_size]
  · exact ⟨rfl, .inl ⟨rfl, rfl⟩⟩
theorem Bld.below {w w' : World} {B b : Nat} {l : List UInt8} (h : Bld w B b l) (hb : Below w.heap.size w w') : Bld w' B b l := by
  rcases h with ⟨h1, v, h2, h3, h4⟩ | ⟨h1, v, h2, h3, h4⟩
  · exact .inl ⟨h1, v, (hb.block b (Array.getElem?_eq_some_iff.1 h2).1).trans h2, own_past hb h3, h4⟩
  · exact .inr ⟨h1, v, (hb.block b (Array.getElem?_eq_some_iff.1 h2).1).trans h2, own_past hb h3, h4⟩
end
end Go.Proofs.YtjecjlhofnnnpaaGreatDoor
