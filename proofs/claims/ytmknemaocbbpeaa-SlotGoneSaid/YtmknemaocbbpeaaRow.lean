/-
  Own words for memory, over any program: parts of a block that is known whole, read and written as wholes; copy into such a block.
  No condition; nothing of the dump is used here.
-/
import Derived.Test.YtmknemaocbbpeaaStill
import Derived.Test.YtmknemaocbbpeaaMem
import Derived.Deep.MidRow
import Derived.Laws.CopyOwn
import Derived.StillTailTactics
namespace Go.Proofs.Ytmknemaocbbpeaa
open Go.RowKit
set_option linter.unusedVariables false

theorem splice_nil {α : Type} (cs : List α) (o : Nat) : splice cs o [] = cs := by simp [splice]
theorem splice_all {α : Type} (cs vs : List α) (h : vs.length = cs.length) : splice cs 0 vs = vs := by simp [splice, h]
theorem splice_mid {α : Type} (a b c vs : List α) (h : vs.length = b.length) : splice (a ++ (b ++ c)) a.length vs = a ++ (vs ++ c) := by
  unfold splice
  rw [List.take_left, List.drop_append, List.drop_of_length_le (by omega), List.nil_append, Nat.add_sub_cancel_left, h, List.drop_left]
theorem splice_cons {α : Type} (cs : List α) (o : Nat) (v : α) (r : List α) (h : o < cs.length) : splice (cs.set o v) (o + 1) r = splice cs o (v :: r) := by
  unfold splice
  have e1 : (cs.set o v).take (o + 1) = cs.take o ++ [v] := by
    rw [List.take_add_one, List.getElem?_set_self h, List.take_set_of_le (Nat.le_refl _)]; rfl
  have e2 : (cs.set o v).drop (o + 1 + r.length) = cs.drop (o + (v :: r).length) := by
    rw [List.drop_set_of_lt (by omega), List.length_cons]; congr 1; omega
  rw [e1, e2]
  simp

section
variable {w w' : World} {g : Nat} {t : TypeId} {cs : List Value}
theorem KB.range (h : KB w g t cs.toArray) : w.rangeAt g 0 cs := fun j v hj => by
  rw [h.cell, Nat.zero_add, List.getElem?_toArray, hj]
theorem KB.part {a b c : List Value} (h : KB w g t (a ++ (b ++ c)).toArray) : w.rangeAt g a.length b := fun j v hj => by
  have hl := (List.getElem?_eq_some_iff.1 hj).1
  rw [h.cell, List.getElem?_toArray, List.getElem?_append_right (by omega), Nat.add_sub_cancel_left, List.getElem?_append_left hl, hj]
theorem KB.there (h : KB w g t cs.toArray) (o n : Nat) (hn : o + n ≤ cs.length) : w.there g o n := fun j hj => by
  refine ⟨?_, h.free _⟩
  rw [h.cell, List.getElem?_toArray, List.getElem?_eq_getElem (by omega)]; rfl
theorem KB.setCells : ∀ (vs : List Value) (o : Nat) (w : World) (cs : List Value), KB w g t cs.toArray → o + vs.length ≤ cs.length → KB (w.setCells g o vs) g t (splice cs o vs).toArray
  | [], o, w, cs, h, _ => by rw [splice_nil]; exact h
  | v :: r, o, w, cs, h, hl => by
    simp only [List.length_cons] at hl
    have h1 : KB (w.setCell ⟨g, o, none⟩ v) g t (cs.set o v).toArray := by
      have := h.put o v
      simpa using this
    have := KB.setCells r (o + 1) _ _ h1 (by simp; omega)
    rw [splice_cons cs o v r (by omega)] at this
    exact this
theorem grown_cells (w : World) (g : Nat) : ∀ (vs : List Value) (o : Nat) (w : World), w.grownBy (w.setCells g o vs) (some g)
  | [], _, w => World.grownBy.refl _ _
  | v :: r, o, w => grown_trans (grown_set w g o v) (grown_cells w g r (o + 1) _)
end

section
variable {P : Program} {ops : Array Oper} {rest : List Oper} {o : Oper} {a : Act} {w : World} {Q : Exit → Act → World → Prop}

/-- A whole array or struct is read out of the block that it fills. -/
theorem wpList_load_kb (hgd : o.guard = none) (ty : TypeId) (x : Operand) (ho : o.op = .load ty x) (g : Nat) (hx : a.eval x = .pointer (some ⟨g, 0, none⟩)) (t : TypeId) (cs : List Value) (h : KB w g t cs.toArray)
    (d : TypeDesc) (hu : P.underlying ty = some d) (hd : d.isRow = true) (n : Nat) (hi : (P.info? ty).map (·.size) = some n) (hn : cs.length = n)
    (k : wpList P ops Q rest (a.put o.dst (.agg cs.toArray)) w) : wpList P ops Q (o :: rest) a w :=
  wpList_load_mid hgd ty x ho g 0 hx cs d h.range hu hd (by rw [hi, hn]) k

/-- A whole array or struct is written over the block that it fills. -/
theorem wpList_store_kb (hgd : o.guard = none) (ty : TypeId) (x y : Operand) (ho : o.op = .store ty x y) (g : Nat) (vs : List Value) (hx : a.eval x = .pointer (some ⟨g, 0, none⟩)) (hy : a.eval y = .agg vs.toArray)
    (t : TypeId) (cs : List Value) (h : KB w g t cs.toArray) (n : Nat) (hi : (P.info? ty).map (·.size) = some n) (hn : cs.length = n) (hv : vs.length = n) (h1 : ∀ v ∈ vs, v.oneCell' = true)
    (k : ∀ w', KB w' g t vs.toArray → w.grownBy w' (some g) → wpList P ops Q rest (a.put o.dst undef) w') : wpList P ops Q (o :: rest) a w := by
  refine wpList_store_mid hgd ty x y ho g 0 vs.toArray hx hy (h.there 0 _ (by simp; omega)) (by simp [hi, hv]) (all_oneCell_toArray h1) ?_
  have := KB.setCells vs 0 w cs h (by omega)
  rw [splice_all _ _ (by omega)] at this
  exact k _ this (grown_cells w g _ _ _)

/-- A part of a block that is known whole is written over. -/
theorem wpList_store_part (hgd : o.guard = none) (ty : TypeId) (x y : Operand) (ho : o.op = .store ty x y) (g off : Nat) (vs : List Value) (hx : a.eval x = .pointer (some ⟨g, off, none⟩)) (hy : a.eval y = .agg vs.toArray)
    (t : TypeId) (cs : List Value) (h : KB w g t cs.toArray) (n : Nat) (hi : (P.info? ty).map (·.size) = some n) (hv : vs.length = n) (hfit : off + n ≤ cs.length) (h1 : ∀ v ∈ vs, v.oneCell' = true)
    (k : ∀ w', KB w' g t (splice cs off vs).toArray → w.grownBy w' (some g) → wpList P ops Q rest (a.put o.dst undef) w') : wpList P ops Q (o :: rest) a w := by
  refine wpList_store_mid hgd ty x y ho g off vs.toArray hx hy (h.there off _ (by simp; omega)) (by simp [hi, hv]) (all_oneCell_toArray h1) ?_
  exact k _ (KB.setCells vs off w cs h (by omega)) (grown_cells w g _ _ _)

/-- A part of a block that is known whole is read. -/
theorem wpList_load_part (hgd : o.guard = none) (ty : TypeId) (x : Operand) (ho : o.op = .load ty x) (g off : Nat) (hx : a.eval x = .pointer (some ⟨g, off, none⟩)) (cs : List Value) (h : w.rangeAt g off cs)
    (d : TypeDesc) (hu : P.underlying ty = some d) (hd : d.isRow = true) (n : Nat) (hi : (P.info? ty).map (·.size) = some n) (hn : cs.length = n)
    (k : wpList P ops Q rest (a.put o.dst (.agg cs.toArray)) w) : wpList P ops Q (o :: rest) a w :=
  wpList_load_mid hgd ty x ho g off hx cs d h hu hd (by rw [hi, hn]) k

/-- copy into a block that is known whole, whatever the source is: nil, empty or not: as the run does it. -/
theorem run_copy_kb (dT sT ty : TypeId) (elem : TypeId) (hu : P.underlying dT = some (.slice elem)) (hsz : (P.info? elem).map (·.size) = some 1)
    (g off dLen dCap : Nat) (t : TypeId) (cs : List Value) (h : KB w g t cs.toArray) (hfit : off + dLen ≤ cs.length) (S : Nat → Prop) (xv : Value) (ys : List UInt8) (hx : BS w S xv ys) :
    ∃ w' n, (Builtin.copy_ #[dT, sT] ty #[.slice (some ⟨g, off, none⟩) dLen dCap, xv]).run P w = .ok (goInt n) w' ∧ KB w' g t (splice cs off ((ys.take dLen).map bv)).toArray ∧ w.grownBy w' (some g) ∧ n = Nat.min ys.length dLen := by
  obtain ⟨A, c, rfl, hc, hm, hn⟩ := hx.form
  have hlen : ((ys.take dLen).map bv).length = Nat.min ys.length dLen := by
    simp only [List.length_map, List.length_take]
    exact Nat.min_comm _ _
  by_cases h0 : Nat.min ys.length dLen = 0
  · have e : (ys.take dLen).map bv = [] := List.eq_nil_of_length_eq_zero (by omega)
    refine ⟨w, _, run_copy_none (P := P) w dT sT ty elem _ _ _ _ _ _ hu hsz h0, by rw [e, splice_nil]; exact h, World.grownBy.refl _ _, ?_⟩
    exact_mod_cast h0.symm
  · have hle : Nat.min ys.length dLen ≤ dLen := Nat.min_le_right _ _
    have hle2 : Nat.min ys.length dLen ≤ ys.length := Nat.min_le_left _ _
    obtain ⟨b, o', rfl, sb, hb, hcell⟩ := hx.at_ (by omega)
    have hsrc : ∀ j v, ((ys.take dLen).map bv)[j]? = some v → w.cell? ((⟨b, o', none⟩ : Addr).add j) = some v := by
      intro j v hj
      have hjl := (List.getElem?_eq_some_iff.1 hj).1
      rw [hlen] at hjl
      have := hx.news j v (by
        rw [← hj, List.getElem?_map, List.getElem?_map, List.getElem?_take, if_pos (by omega)])
      exact this
    have hrun := run_copy_row (P := P) w dT sT ty elem g off dLen dCap ⟨b, o', none⟩ _ c cs.toArray t _ hu hsz h hlen hsrc (by rw [hlen]; simp; omega) (bytes_one _)
    have e : (cs.toArray.toList.take off ++ ((ys.take dLen).map bv ++ cs.toArray.toList.drop (off + ((ys.take dLen).map bv).length))) = splice cs off ((ys.take dLen).map bv) := rfl
    rw [List.append_assoc, e, hlen] at hrun
    exact ⟨_, _, hrun, setRow_heap w g _ _ t _ h, ⟨rfl, rfl, rfl, by simp [World.setRow], fun i hi hr => setRow_other w g i _ (fun e => hr (by rw [e]))⟩, rfl⟩

/-- copy into a block that is known whole, whatever the source is: nil, empty or not. -/
theorem wpList_copy_kb (hgd : o.guard = none) (d s : Operand) (dT sT : TypeId) (ho : o.op = .call { callee := .builtin .copy, args := #[d, s], argTypes := #[dT, sT] })
    (elem : TypeId) (hu : P.underlying dT = some (.slice elem)) (hsz : (P.info? elem).map (·.size) = some 1)
    (g off dLen dCap : Nat) (hd : a.eval d = .slice (some ⟨g, off, none⟩) dLen dCap) (t : TypeId) (cs : List Value) (h : KB w g t cs.toArray) (hfit : off + dLen ≤ cs.length)
    (S : Nat → Prop) (xv : Value) (ys : List UInt8) (hs : a.eval s = xv) (hx : BS w S xv ys)
    (k : ∀ w', KB w' g t (splice cs off ((ys.take dLen).map bv)).toArray → w.grownBy w' (some g) → wpList P ops Q rest (a.put o.dst (goInt (Nat.min ys.length dLen))) w') : wpList P ops Q (o :: rest) a w := by
  refine wpList_plain hgd fun K hK => ?_
  obtain ⟨w', n, hrun, hk, hg, rfl⟩ := run_copy_kb (P := P) dT sT o.type elem hu hsz g off dLen dCap t cs h hfit S xv ys hx
  unfold Oper.wp execOp
  simp only [ho, resolve, invoke, builtin, Sem.run_bind, Sem.run_pure, Result.andThen_ok, List.map_toArray, List.map_cons, List.map_nil, hd, hs, hrun]
  exact hK _ _ (k w' hk hg)

/-- The same, as the whole operation (for a region that draws its order). -/
theorem wp_copy_kb {K : Act → World → Prop} (d s : Operand) (dT sT : TypeId) (ho : o.op = .call { callee := .builtin .copy, args := #[d, s], argTypes := #[dT, sT] })
    (elem : TypeId) (hu : P.underlying dT = some (.slice elem)) (hsz : (P.info? elem).map (·.size) = some 1)
    (g off dLen dCap : Nat) (hd : a.eval d = .slice (some ⟨g, off, none⟩) dLen dCap) (t : TypeId) (cs : List Value) (h : KB w g t cs.toArray) (hfit : off + dLen ≤ cs.length)
    (S : Nat → Prop) (xv : Value) (ys : List UInt8) (hs : a.eval s = xv) (hx : BS w S xv ys)
    (k : ∀ w', KB w' g t (splice cs off ((ys.take dLen).map bv)).toArray → w.grownBy w' (some g) → K (a.put o.dst (goInt (Nat.min ys.length dLen))) w') : Oper.wp P o a w K Q := by
  obtain ⟨w', n, hrun, hk, hg, rfl⟩ := run_copy_kb (P := P) dT sT o.type elem hu hsz g off dLen dCap t cs h hfit S xv ys hx
  unfold Oper.wp execOp
  simp only [ho, resolve, invoke, builtin, Sem.run_bind, Sem.run_pure, Result.andThen_ok, List.map_toArray, List.map_cons, List.map_nil, hd, hs, hrun]
  exact k w' hk hg
end

/-- The cells that make lays. -/
theorem madeCells_of (z : Value) (c : Value) (k n : Nat) (hk : 0 < k) (hz : z.cells = Array.replicate k c) : madeCells z.cells (n * k) = Array.replicate (n * k) c := by
  rw [hz]
  apply Array.ext
  · rw [size_madeCells, Array.size_replicate]
  · intro i h1 h2
    simp only [madeCells, Array.getElem_map, Array.getElem_range, Array.size_replicate, Array.getElem_replicate]
    have h3 : i % k < (Array.replicate k c).size := by rw [Array.size_replicate]; exact Nat.mod_lt _ hk
    rw [getElem!_pos (Array.replicate k c) (i % k) h3, Array.getElem_replicate]

/-- 'a[i]' of an array by value whose elements are one cell each. -/
theorem run_index_row {P : Program} (w : World) (t e : TypeId) (n : Nat) (cs : Array Value) (k : IntKind) (i : Nat) (v : Value) (h : P.underlying t = some (.array n e)) (hs : (P.info? e).map (·.size) = some 1)
    (ik : IntKind) (ha : P.underlying e = some (.int ik)) (hn : i < n) (hv : cs[i]? = some v) :
    (Instr.index t (.agg cs) (.int k (i : Int))).run P w = .ok v w := by
  have hi : (0 ≤ (i : Int) ∧ (i : Int) < (n : Int)) := by omega
  cases hq : P.info? e with
  | none => simp [hq] at hs
  | some j =>
    have hz : j.size = 1 := by simpa [hq] using hs
    have hagg : (isAgg e).run P w = .ok false w := by simp [isAgg, run_underlying ha]
    simp [Instr.index, run_underlying h, asIntOf, hi, hz, hv, sizeOf, typeInfo, hq, hagg, hn, go_sem]

end Go.Proofs.Ytmknemaocbbpeaa
