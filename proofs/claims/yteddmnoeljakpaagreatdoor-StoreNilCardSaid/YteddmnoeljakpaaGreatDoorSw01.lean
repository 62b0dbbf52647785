/-
  Row: Own words for memory, over any program: parts of a block that is known whole, read and written as wholes; copy into such a block. No condition; nothing of the dump is used here.
  ShaB: The words of a block: schedule, and the document's own words: each one's contract over the loaded program. No condition but the worlds' shapes that each contract names.
  ShaC: A block mixed in: mixed, and the document's own block: each one's contract over the loaded program. No condition but the worlds' shapes that each contract names (the table roots among them).
  ShaTab: What the listed table gives the walks: its 64 cells hold K; and the start-up's own heap meets the condition. No condition.
  Str: Own words for texts, over any program: a byte slice turned into a text; arrays of bytes compared. No condition; nothing of the dump is used here.
  DkS: Sectors: arrays of 256 bytes, by value and in rows, over the loaded program. No condition.
-/
import Derived.Test.YteddmnoeljakpaaGreatDoorSw00
import Derived.Deep.MidRow
import Derived.Laws.CopyOwn
import Derived.StillTailTactics
import Derived.BigRegion
import Derived.Test.YteddmnoeljakpaaGreatDoorRows
import Derived.ProofKit
import Derived.LaidMore
import Derived.OpenShut
import Derived.FnData
import Derived.Laws.BytesArg
import Derived.Stop.BytesEq
import Derived.Laws.MakeOwn
set_option linter.unusedVariables false
set_option maxRecDepth 100000
namespace Go.Proofs.YteddmnoeljakpaaGreatDoor
section
open Go.RowKit
theorem splice_nil {α : Type} (cs : List α) (o : Nat) : splice cs o [] = cs := by simp [splice]
theorem splice_all {α : Type} (cs vs : List α) (h : vs.length = cs.length) : splice cs 0 vs = vs := by simp [splice, h]
theorem splice_mid {α : Type} (a b c vs : List α) (h : vs.length = b.length) : splice (a ++ (b ++ c)) a.length vs = a ++ (vs ++ c) := by
  unfold splice
  rw [List.take_left, List.drop_append, List.drop_of_length_le (by omega), List.nil_append, Nat.add_sub_cancel_left, h, List.drop_left]
theorem splice_cons {α : Type} (cs : List α) (o : Nat) (v : α) (r : List α) (h : o < cs.length) : splice (cs.set o v) (o + 1) r = splice cs o (v :: r) := by
  unfold splice
  have e1 : (cs.set o v).take (o + 1) = cs.take o ++ [v] := by
    rw [List.take_add_one, List.getElem?_set_self h, List.take_set_of_le (Nat.le_refl _)]; rfl
  have e2 : (cs.set o v).drop (o + 1 + r.length) = cs.drop (o + (v :: r).length) := by
    rw [List.drop_set_of_lt (by omega), List.length_cons]; congr 1; omega
  rw [e1, e2]
  simp
section
variable {w w' : World} {g : Nat} {t : TypeId} {cs : List Value}
theorem KB.range (h : KB w g t cs.toArray) : w.rangeAt g 0 cs := fun j v hj => by
  rw [h.cell, Nat.zero_add, List.getElem?_toArray, hj]
theorem KB.part {a b c : List Value} (h : KB w g t (a ++ (b ++ c)).toArray) : w.rangeAt g a.length b := fun j v hj => by
  have hl := (List.getElem?_eq_some_iff.1 hj).1
  rw [h.cell, List.getElem?_toArray, List.getElem?_append_right (by omega), Nat.add_sub_cancel_left, List.getElem?_append_left hl, hj]
theorem KB.there (h : KB w g t cs.toArray) (o n : Nat) (hn : o + n ≤ cs.length) : w.there g o n := fun j hj => by
  refine ⟨?_, h.free _⟩
  rw [h.cell, List.getElem?_toArray, List.getElem?_eq_getElem (by omega)]; rfl
theorem KB.setCells : ∀ (vs : List Value) (o : Nat) (w : World) (cs : List Value), KB w g t cs.toArray → o + vs.length ≤ cs.length → KB (w.setCells g o vs) g t (splice cs o vs).toArray
  | [], o, w, cs, h, _ => by rw [splice_nil]; exact h
  | v :: r, o, w, cs, h, hl => by
    simp only [List.length_cons] at hl
    have h1 : KB (w.setCell ⟨g, o, none⟩ v) g t (cs.set o v).toArray := by
      have := h.put o v
      simpa using this
    have := KB.setCells r (o + 1) _ _ h1 (by simp; omega)
    rw [splice_cons cs o v r (by omega)] at this
    exact this
theorem grown_cells (w : World) (g : Nat) : ∀ (vs : List Value) (o : Nat) (w : World), w.grownBy (w.setCells g o vs) (some g)
  | [], _, w => World.grownBy.refl _ _
  | v :: r, o, w => grown_trans (grown_set w g o v) (grown_cells w g r (o + 1) _)
end
section
variable {P : Program} {ops : Array Oper} {rest : List Oper} {o : Oper} {a : Act} {w : World} {Q : Exit → Act → World → Prop}
theorem wpList_load_kb (hgd : o.guard = none) (ty : TypeId) (x : Operand) (ho : o.op = .load ty x) (g : Nat) (hx : a.eval x = .pointer (some ⟨g, 0, none⟩)) (t : TypeId) (cs : List Value) (h : KB w g t cs.toArray)
    (d : TypeDesc) (hu : P.underlying ty = some d) (hd : d.isRow = true) (n : Nat) (hi : (P.info? ty).map (·.size) = some n) (hn : cs.length = n)
    (k : wpList P ops Q rest (a.put o.dst (.agg cs.toArray)) w) : wpList P ops Q (o :: rest) a w :=
  wpList_load_mid hgd ty x ho g 0 hx cs d h.range hu hd (by rw [hi, hn]) k
theorem wpList_store_kb (hgd : o.guard = none) (ty : TypeId) (x y : Operand) (ho : o.op = .store ty x y) (g : Nat) (vs : List Value) (hx : a.eval x = .pointer (some ⟨g, 0, none⟩)) (hy : a.eval y = .agg vs.toArray)
    (t : TypeId) (cs : List Value) (h : KB w g t cs.toArray) (n : Nat) (hi : (P.info? ty).map (·.size) = some n) (hn : cs.length = n) (hv : vs.length = n) (h1 : ∀ v ∈ vs, v.oneCell' = true)
    (k : ∀ w', KB w' g t vs.toArray → w.grownBy w' (some g) → wpList P ops Q rest (a.put o.dst undef) w') : wpList P ops Q (o :: rest) a w := by
  refine wpList_store_mid hgd ty x y ho g 0 vs.toArray hx hy (h.there 0 _ (by simp; omega)) (by simp [hi, hv]) (all_oneCell_toArray h1) ?_
  have := KB.setCells vs 0 w cs h (by omega)
  rw [splice_all _ _ (by omega)] at this
  exact k _ this (grown_cells w g _ _ _)
theorem wpList_store_part (hgd : o.guard = none) (ty : TypeId) (x y : Operand) (ho : o.op = .store ty x y) (g off : Nat) (vs : List Value) (hx : a.eval x = .pointer (some ⟨g, off, none⟩)) (hy : a.eval y = .agg vs.toArray)
    (t : TypeId) (cs : List Value) (h : KB w g t cs.toArray) (n : Nat) (hi : (P.info? ty).map (·.size) = some n) (hv : vs.length = n) (hfit : off + n ≤ cs.length) (h1 : ∀ v ∈ vs, v.oneCell' = true)
    (k : ∀ w', KB w' g t (splice cs off vs).toArray → w.grownBy w' (some g) → wpList P ops Q rest (a.put o.dst undef) w') : wpList P ops Q (o :: rest) a w := by
  refine wpList_store_mid hgd ty x y ho g off vs.toArray hx hy (h.there off _ (by simp; omega)) (by simp [hi, hv]) (all_oneCell_toArray h1) ?_
  exact k _ (KB.setCells vs off w cs h (by omega)) (grown_cells w g _ _ _)
theorem wpList_load_part (hgd : o.guard = none) (ty : TypeId) (x : Operand) (ho : o.op = .load ty x) (g off : Nat) (hx : a.eval x = .pointer (some ⟨g, off, none⟩)) (cs : List Value) (h : w.rangeAt g off cs)
    (d : TypeDesc) (hu : P.underlying ty = some d) (hd : d.isRow = true) (n : Nat) (hi : (P.info? ty).map (·.size) = some n) (hn : cs.length = n)
    (k : wpList P ops Q rest (a.put o.dst (.agg cs.toArray)) w) : wpList P ops Q (o :: rest) a w :=
  wpList_load_mid hgd ty x ho g off hx cs d h hu hd (by rw [hi, hn]) k
theorem run_copy_kb (dT sT ty : TypeId) (elem : TypeId) (hu : P.underlying dT = some (.slice elem)) (hsz : (P.info? elem).map (·.size) = some 1)
    (g off dLen dCap : Nat) (t : TypeId) (cs : List Value) (h : KB w g t cs.toArray) (hfit : off + dLen ≤ cs.length) (S : Nat → Prop) (xv : Value) (ys : List UInt8) (hx : BS w S xv ys) :
    ∃ w' n, (Builtin.copy_ #[dT, sT] ty #[.slice (some ⟨g, off, none⟩) dLen dCap, xv]).run P w = .ok (goInt n) w' ∧ KB w' g t (splice cs off ((ys.take dLen).map bv)).toArray ∧ w.grownBy w' (some g) ∧ n = Nat.min ys.length dLen := by
  obtain ⟨A, c, rfl, hc, hm, hn⟩ := hx.form
  have hlen : ((ys.take dLen).map bv).length = Nat.min ys.length dLen := by
    simp only [List.length_map, List.length_take]
    exact Nat.min_comm _ _
  by_cases h0 : Nat.min ys.length dLen = 0
  · have e : (ys.take dLen).map bv = [] := List.eq_nil_of_length_eq_zero (by omega)
    refine ⟨w, _, run_copy_none (P := P) w dT sT ty elem _ _ _ _ _ _ hu hsz h0, by rw [e, splice_nil]; exact h, World.grownBy.refl _ _, ?_⟩
    exact_mod_cast h0.symm
  · have hle : Nat.min ys.length dLen ≤ dLen := Nat.min_le_right _ _
    have hle2 : Nat.min ys.length dLen ≤ ys.length := Nat.min_le_left _ _
    obtain ⟨b, o', rfl, sb, hb, hcell⟩ := hx.at_ (by omega)
    have hsrc : ∀ j v, ((ys.take dLen).map bv)[j]? = some v → w.cell? ((⟨b, o', none⟩ : Addr).add j) = some v := by
      intro j v hj
      have hjl := (List.getElem?_eq_some_iff.1 hj).1
      rw [hlen] at hjl
      have := hx.news j v (by
        rw [← hj, List.getElem?_map, List.getElem?_map, List.getElem?_take, if_pos (by omega)])
      exact this
    have hrun := run_copy_row (P := P) w dT sT ty elem g off dLen dCap ⟨b, o', none⟩ _ c cs.toArray t _ hu hsz h hlen hsrc (by rw [hlen]; simp; omega) (bytes_one _)
    have e : (cs.toArray.toList.take off ++ ((ys.take dLen).map bv ++ cs.toArray.toList.drop (off + ((ys.take dLen).map bv).length))) = splice cs off ((ys.take dLen).map bv) := rfl
    rw [List.append_assoc, e, hlen] at hrun
    exact ⟨_, _, hrun, setRow_heap w g _ _ t _ h, ⟨rfl, rfl, rfl, by simp [World.setRow], fun i hi hr => setRow_other w g i _ (fun e => hr (by rw [e]))⟩, rfl⟩
theorem wpList_copy_kb (hgd : o.guard = none) (d s : Operand) (dT sT : TypeId) (ho : o.op = .call { callee := .builtin .copy, args := #[d, s], argTypes := #[dT, sT] })
    (elem : TypeId) (hu : P.underlying dT = some (.slice elem)) (hsz : (P.info? elem).map (·.size) = some 1)
    (g off dLen dCap : Nat) (hd : a.eval d = .slice (some ⟨g, off, none⟩) dLen dCap) (t : TypeId) (cs : List Value) (h : KB w g t cs.toArray) (hfit : off + dLen ≤ cs.length)
    (S : Nat → Prop) (xv : Value) (ys : List UInt8) (hs : a.eval s = xv) (hx : BS w S xv ys)
    (k : ∀ w', KB w' g t (splice cs off ((ys.take dLen).map bv)).toArray → w.grownBy w' (some g) → wpList P ops Q rest (a.put o.dst (goInt (Nat.min ys.length dLen))) w') : wpList P ops Q (o :: rest) a w := by
  refine wpList_plain hgd fun K hK => ?_
  obtain ⟨w', n, hrun, hk, hg, rfl⟩ := run_copy_kb (P := P) dT sT o.type elem hu hsz g off dLen dCap t cs h hfit S xv ys hx
  unfold Oper.wp execOp
  simp only [ho, resolve, invoke, builtin, Sem.run_bind, Sem.run_pure, Result.andThen_ok, List.map_toArray, List.map_cons, List.map_nil, hd, hs, hrun]
  exact hK _ _ (k w' hk hg)
theorem wp_copy_kb {K : Act → World → Prop} (d s : Operand) (dT sT : TypeId) (ho : o.op = .call { callee := .builtin .copy, args := #[d, s], argTypes := #[dT, sT] })
    (elem : TypeId) (hu : P.underlying dT = some (.slice elem)) (hsz : (P.info? elem).map (·.size) = some 1)
    (g off dLen dCap : Nat) (hd : a.eval d = .slice (some ⟨g, off, none⟩) dLen dCap) (t : TypeId) (cs : List Value) (h : KB w g t cs.toArray) (hfit : off + dLen ≤ cs.length)
    (S : Nat → Prop) (xv : Value) (ys : List UInt8) (hs : a.eval s = xv) (hx : BS w S xv ys)
    (k : ∀ w', KB w' g t (splice cs off ((ys.take dLen).map bv)).toArray → w.grownBy w' (some g) → K (a.put o.dst (goInt (Nat.min ys.length dLen))) w') : Oper.wp P o a w K Q := by
  obtain ⟨w', n, hrun, hk, hg, rfl⟩ := run_copy_kb (P := P) dT sT o.type elem hu hsz g off dLen dCap t cs h hfit S xv ys hx
  unfold Oper.wp execOp
  simp only [ho, resolve, invoke, builtin, Sem.run_bind, Sem.run_pure, Result.andThen_ok, List.map_toArray, List.map_cons, List.map_nil, hd, hs, hrun]
  exact k w' hk hg
end
theorem madeCells_of (z : Value) (c : Value) (k n : Nat) (hk : 0 < k) (hz : z.cells = Array.replicate k c) : madeCells z.cells (n * k) = Array.replicate (n * k) c := by
  rw [hz]
  apply Array.ext
  · rw [size_madeCells, Array.size_replicate]
  · intro i h1 h2
    simp only [madeCells, Array.getElem_map, Array.getElem_range, Array.size_replicate, Array.getElem_replicate]
    have h3 : i % k < (Array.replicate k c).size := by rw [Array.size_replicate]; exact Nat.mod_lt _ hk
    rw [getElem!_pos (Array.replicate k c) (i % k) h3, Array.getElem_replicate]
theorem run_index_row {P : Program} (w : World) (t e : TypeId) (n : Nat) (cs : Array Value) (k : IntKind) (i : Nat) (v : Value) (h : P.underlying t = some (.array n e)) (hs : (P.info? e).map (·.size) = some 1)
    (ik : IntKind) (ha : P.underlying e = some (.int ik)) (hn : i < n) (hv : cs[i]? = some v) :
    (Instr.index t (.agg cs) (.int k (i : Int))).run P w = .ok v w := by
  have hi : (0 ≤ (i : Int) ∧ (i : Int) < (n : Int)) := by omega
  cases hq : P.info? e with
  | none => simp [hq] at hs
  | some j =>
    have hz : j.size = 1 := by simpa [hq] using hs
    have hagg : (isAgg e).run P w = .ok false w := by simp [isAgg, run_underlying ha]
    simp [Instr.index, run_underlying h, asIntOf, hi, hz, hv, sizeOf, typeInfo, hq, hagg, hn, go_sem]
end
section
open Go.RowKit
theorem row_zero : (#[Value.int .u32 0, Value.int .u32 0, Value.int .u32 0, Value.int .u32 0, Value.int .u32 0, Value.int .u32 0, Value.int .u32 0, Value.int .u32 0, Value.int .u32 0, Value.int .u32 0, Value.int .u32 0, Value.int .u32 0, Value.int .u32 0, Value.int .u32 0, Value.int .u32 0, Value.int .u32 0, Value.int .u32 0, Value.int .u32 0, Value.int .u32 0, Value.int .u32 0, Value.int .u32 0, Value.int .u32 0, Value.int .u32 0, Value.int .u32 0, Value.int .u32 0, Value.int .u32 0, Value.int .u32 0, Value.int .u32 0, Value.int .u32 0, Value.int .u32 0, Value.int .u32 0, Value.int .u32 0, Value.int .u32 0, Value.int .u32 0, Value.int .u32 0, Value.int .u32 0, Value.int .u32 0, Value.int .u32 0, Value.int .u32 0, Value.int .u32 0, Value.int .u32 0, Value.int .u32 0, Value.int .u32 0, Value.int .u32 0, Value.int .u32 0, Value.int .u32 0, Value.int .u32 0, Value.int .u32 0, Value.int .u32 0, Value.int .u32 0, Value.int .u32 0, Value.int .u32 0, Value.int .u32 0, Value.int .u32 0, Value.int .u32 0, Value.int .u32 0, Value.int .u32 0, Value.int .u32 0, Value.int .u32 0, Value.int .u32 0, Value.int .u32 0, Value.int .u32 0, Value.int .u32 0, Value.int .u32 0] : Array Value) = (rowW [] 64).toArray := rfl
theorem KB.word {w : World} {g : Nat} {ty : TypeId} {ws : List Nat} {n : Nat} (h : KB w g ty (rowW ws n).toArray) {i : Nat} (hi : i < ws.length) : w.cell? ⟨g, i, none⟩ = some (.int .u32 ((ws.getD i 0 : Nat) : Int)) := by
  rw [h.cell, List.getElem?_toArray, rowW_get ws n i hi]
theorem KB.room {w : World} {g : Nat} {ty : TypeId} {ws : List Nat} {n : Nat} (h : KB w g ty (rowW ws n).toArray) {i : Nat} (hi : i < n) : ∃ x : Nat, w.cell? ⟨g, i, none⟩ = some (.int .u32 (x : Int)) := by
  obtain ⟨x, hx⟩ := rowW_some ws n i hi
  exact ⟨x, by rw [h.cell, List.getElem?_toArray, hx]⟩
theorem KB.put_word {w : World} {g : Nat} {ty : TypeId} {ws : List Nat} {n : Nat} (h : KB w g ty (rowW ws n).toArray) (i : Nat) (hi : i = ws.length) (hn : i < n) (x : Nat) : KB (w.setCell ⟨g, i, none⟩ (.int .u32 (x : Int))) g ty (rowW (ws ++ [x]) n).toArray := by
  subst hi
  have := h.put ws.length (wv x)
  rw [← rowW_set ws n x hn]
  simpa using this
theorem list_four (l : List UInt8) (k : Nat) (h : k + 4 ≤ l.length) : l.drop k = l.getD k 0 :: l.getD (k + 1) 0 :: l.getD (k + 2) 0 :: l.getD (k + 3) 0 :: l.drop (k + 4) := by
  rw [List.drop_eq_getElem_cons (by omega), List.drop_eq_getElem_cons (by omega), List.drop_eq_getElem_cons (by omega), List.drop_eq_getElem_cons (by omega)]
  simp [List.getD, List.getElem?_eq_getElem (show k < l.length by omega), List.getElem?_eq_getElem (show k + 1 < l.length by omega), List.getElem?_eq_getElem (show k + 2 < l.length by omega), List.getElem?_eq_getElem (show k + 3 < l.length by omega)]
theorem add_val4 (a b c d : Nat) : ((a : Int) + (b : Int) + (c : Int) + (d : Int)) % 4294967296 = ((add32 (add32 (add32 a b) c) d : Nat) : Int) := by unfold add32; omega
theorem words_one (ws : List Nat) : ∀ v ∈ ws.map wv, v.oneCell' = true := by
  intro v hv
  obtain ⟨x, _, rfl⟩ := List.mem_map.1 hv
  rfl
theorem schedule_any (S : Nat → Prop) (v : Value) (l : List UInt8) (hl : 64 ≤ l.length) (w : World) (h : BS w S v l) :
    Calls Tryz.prog 208 #[v] w fun e w' => e = .returned (.agg ((wordsTo l 64).map wv).toArray) ∧ Below w.heap.size w w' := by
  obtain ⟨A, c, rfl, hc, hm, _⟩ := h.form
  obtain ⟨b, o, rfl, sb, hb, _⟩ := h.at_ (by omega)
  have hm' : c ≤ 9223372036854775807 := hm
  clear hm
  go_enter Tryz.func208, Tryz.ntmps208
  go_wp2
  rw [row_zero]
  have B0 : Below w.heap.size w ((w.alloc (.cells (rowW [] 64).toArray 244)).alloc (.cells (rowW [] 64).toArray 244)) := ((Below.refl _ _).alloc (Nat.le_refl _) _).alloc (by simp) _
  have hr : KB ((w.alloc (.cells (rowW [] 64).toArray 244)).alloc (.cells (rowW [] 64).toArray 244)) w.heap.size 244 (rowW [] 64).toArray := (KB.new _ _ _).alloc _
  have hg : KB ((w.alloc (.cells (rowW [] 64).toArray 244)).alloc (.cells (rowW [] 64).toArray 244)) (w.heap.size + 1) 244 (rowW [] 64).toArray := by
    have := KB.new (w.alloc (.cells (rowW [] 64).toArray 244)) 244 (rowW [] 64).toArray
    simpa using this
  have ht := h.lt.below' B0
  generalize (w.alloc (.cells (rowW [] 64).toArray 244)).alloc (.cells (rowW [] 64).toArray 244) = W0 at *
  clear h sb hb
  go_loopw [10] (fun i wr => ∃ k : Nat, k ≤ 16 ∧ i = .int .i64 k ∧ KB wr (w.heap.size + 1) 244 (rowW (wordsTo l k) 64).toArray ∧ W0.grownBy wr (some (w.heap.size + 1))) (fun i _ => 16 - (intOf i).toNat)
  case atStart => exact ⟨0, by omega, rfl, hg, World.grownBy.refl _ _⟩
  case round =>
    obtain ⟨k, hk, rfl, hgk, hgr⟩ := hrel
    have htk := ht.grown hgr (by rintro g hg; injection hg; omega)
    by_cases hlt : k < 16
    · have hd := htk.drop (4 * k) (by omega)
      rw [list_four l (4 * k) (by omega), if_neg (by omega)] at hd
      obtain ⟨x, hx⟩ := hgk.room (i := k) (by omega)
      have hf := hgk.free k
      have h4 : (4 : Int) * k ≤ l.length := by omega
      have h5 : (4 : Int) * k ≤ c := by omega
      have h6 : ¬ c = 4 * k := by omega
      go_wp2_with fail
      refine (word_any _ _ _ _ _ _ _ _ rfl _ hd).mono ?_
      rintro e w1 ⟨rfl, n, rfl⟩
      go_wp2
      go_roundw
      case rel =>
        refine ⟨k + 1, by omega, by go_num, ?_, grown_trans hgr (grown_trans (grown_of_below (Below_drawn (Below.refl _ _) n) _) (grown_set _ _ _ _))⟩
        show KB _ _ _ (rowW (wordsTo l k ++ [nextW l (wordsTo l k)]) 64).toArray
        rw [nextW_low l k hlt]
        exact (hgk.drewN n).put_word k (wordsTo_length l k).symm (by omega) _
      case measure => simp [intOf]; omega
    · obtain rfl : k = 16 := by omega
      go_wp2
      clear htk
      rw [show (((16 : Nat) : Int)) = 16 from rfl]
      go_loopw [5] (fun i wr => ∃ k : Nat, 16 ≤ k ∧ k ≤ 64 ∧ i = .int .i64 k ∧ KB wr (w.heap.size + 1) 244 (rowW (wordsTo l k) 64).toArray ∧ W0.grownBy wr (some (w.heap.size + 1))) (fun i _ => 64 - (intOf i).toNat)
      case atStart => exact ⟨16, by omega, by omega, rfl, hgk, hgr⟩
      case round =>
        clear hgk hgr
        obtain ⟨k, hk1, hk2, rfl, hgk, hgr⟩ := hrel
        by_cases hlt : k < 64
        · obtain ⟨x, hx⟩ := hgk.room (i := k) (by omega)
          have hf := hgk.free k
          have hz : k < (wordsTo l k).length + 1 := by rw [wordsTo_length]; omega
          have r15 := hgk.word (i := k - 15) (by omega)
          have r2 := hgk.word (i := k - 2) (by omega)
          have r7 := hgk.word (i := k - 7) (by omega)
          have r16 := hgk.word (i := k - 16) (by omega)
          have b15 := wordsTo_getD_lt l k (k - 15)
          have b2 := wordsTo_getD_lt l k (k - 2)
          have HN := Lib.hid (nextW_high l k hk1)
          generalize (wordsTo l k).getD (k - 15) 0 = x15 at r15 b15 HN
          generalize (wordsTo l k).getD (k - 2) 0 = x2 at r2 b2 HN
          generalize (wordsTo l k).getD (k - 7) 0 = x7 at r7 HN
          generalize (wordsTo l k).getD (k - 16) 0 = x16 at r16 HN
          have HB0 := Lib.hid (sig0_val x15 b15)
          have HB1 := Lib.hid (sig1_val x2 b2)
          clear hz
          go_wp2
          go_quiet (fail)
          go_wp2_with fail
          refine (rot_any x15 7 _ rfl b15 (by omega) (by omega) _).mono ?_
          rintro e w' ⟨rfl, rfl⟩
          go_wp2_with fail
          refine (rot_any x15 18 _ rfl b15 (by omega) (by omega) _).mono ?_
          rintro e w' ⟨rfl, rfl⟩
          go_wp2_with fail
          simp only [HB0.out]
          refine (rot_any x2 17 _ rfl b2 (by omega) (by omega) _).mono ?_
          rintro e w' ⟨rfl, rfl⟩
          go_wp2_with fail
          refine (rot_any x2 19 _ rfl b2 (by omega) (by omega) _).mono ?_
          rintro e w' ⟨rfl, rfl⟩
          go_wp2_with fail
          simp only [HB1.out]
          go_region
          go_wp2
          go_roundw
          case rel =>
            refine ⟨k + 1, by omega, by omega, by go_num, ?_, grown_trans hgr (grown_trans (grown_of_below (Below_drawn (Below.refl _ _) _) _) (grown_set _ _ _ _))⟩
            show KB _ _ _ (rowW (wordsTo l k ++ [nextW l (wordsTo l k)]) 64).toArray
            rw [HN.out, add_val4]
            exact (hgk.drewN _).put_word k (wordsTo_length l k).symm (by omega) _
          case measure => simp [intOf]; omega
        · obtain rfl : k = 64 := by omega
          have HE := Lib.hid (rowW_full (wordsTo l 64) 64 (wordsTo_length l 64))
          have HL : Hid (((wordsTo l 64).map wv).length = 64) := by show _ = _; rw [List.length_map, wordsTo_length]
          have hw1 : ∀ v ∈ (wordsTo l 64).map wv, v.oneCell' = true := words_one _
          rw [HE.out] at hgk
          generalize hcs : (wordsTo l 64).map wv = cs at *
          have HC := Lib.hid hcs
          clear hcs
          have hr' := hr.grown hgr (by simp)
          have b1 := B0.trans (below_of_grown' hgr (by simp) B0.size)
          go_wp2_with (first
            | (refine wpList_load_kb rfl 244 (.tmp 3) rfl (w.heap.size + 1) rfl _ cs hgk _ Tryz.underlying244 rfl 64 (by kernel_rfl) HL.out ?_)
            | (refine wpList_store_kb rfl 244 (.tmp 2) (.tmp 64) rfl w.heap.size cs rfl rfl _ _ hr' 64 (by kernel_rfl) (by rw [rowW_length _ _ (by simp)]) HL.out hw1 ?_; intro w2 k2 g2))
          refine bodyPost_ret (results_cell_row (P := Tryz.prog) rfl _ w2 w.heap.size _ cs.toArray (0, 0) _ rfl k2 Tryz.underlying244 rfl (by rw [show cs.toArray.size = 64 from by simpa using HL.out]; kernel_rfl)) rfl ⟨by rw [HC.out], b1.trans (below_of_grown' g2 (Nat.le_refl _) b1.size)⟩
end
section
open Go.RowKit
def Tab (w : World) : Prop := 1 < w.heap.size ∧ ∀ i, i < 64 → w.cell? ⟨1, i, none⟩ = some (.int .u32 ((keysL.getD i 0 : Nat) : Int))
theorem Tab.keep {w w' : World} (h : Tab w) (hs : w.heap.size ≤ w'.heap.size) (hk : w'.heap[1]? = w.heap[1]?) : Tab w' :=
  ⟨Nat.lt_of_lt_of_le h.1 hs, fun i hi => (World.cell?_of_block (w := w) hk).trans (h.2 i hi)⟩
theorem Tab.below {w w' : World} (h : Tab w) (hb : Below w.heap.size w w') : Tab w' := h.keep hb.size (hb.block _ h.1)
theorem Tab.grown {w w' : World} {g : Nat} (h : Tab w) (hb : w.grownBy w' (some g)) (hg : 1 < g) : Tab w' := h.keep hb.size (hb.block _ h.1 (by simp; omega))
def zero8 : Array Value := #[.int .u32 0, .int .u32 0, .int .u32 0, .int .u32 0, .int .u32 0, .int .u32 0, .int .u32 0, .int .u32 0]
theorem turned_e (x : Nat) (hx : x < 4294967296) (w : World) :
    Calls Tryz.prog 209 #[.int .u32 x, .int .i64 6, .int .i64 11, .int .i64 25] w fun e w' => e = .returned (.int .u32 (turn3 x 6 11 25 : Nat)) ∧ w' = w :=
  (turned_any x 6 11 25 hx (by decide) (by decide) (by decide) (by decide) (by decide) (by decide) 6 11 25 rfl rfl rfl w).mono fun e w' h => ⟨h.1, h.2.symm⟩
theorem turned_a (x : Nat) (hx : x < 4294967296) (w : World) :
    Calls Tryz.prog 209 #[.int .u32 x, .int .i64 2, .int .i64 13, .int .i64 22] w fun e w' => e = .returned (.int .u32 (turn3 x 2 13 22 : Nat)) ∧ w = w' :=
  turned_any x 2 13 22 hx (by decide) (by decide) (by decide) (by decide) (by decide) (by decide) 2 13 22 rfl rfl rfl w
set_option maxRecDepth 100000 in
set_option maxHeartbeats 1000000 in
theorem mixed_any (S : Nat → Prop) (v : Value) (l : List UInt8) (hl : 64 ≤ l.length) (s : S8) (hs : s.Ok) (w : World) (h : BS w S v l) (ht : Tab w) :
    Calls Tryz.prog 194 #[.agg s.vals.toArray, v] w fun e w' => e = .returned (.agg (block8 s l).vals.toArray) ∧ Below w.heap.size w w' := by
  obtain ⟨A, c, rfl, hc, hm, _⟩ := h.form
  go_enter Tryz.func194, Tryz.ntmps194
  go_wp2_with fail
  have h1 := (h.lt.alloc (.cells s.vals.toArray 229)).alloc (.cells zero8 229)
  have kw : KB ((w.alloc (.cells s.vals.toArray 229)).alloc (.cells zero8 229)) w.heap.size 229 s.vals.toArray := (KB.new _ _ _).alloc _
  have kr : KB ((w.alloc (.cells s.vals.toArray 229)).alloc (.cells zero8 229)) (w.heap.size + 1) 229 zero8 := by
    have := KB.new (w.alloc (.cells s.vals.toArray 229)) 229 zero8
    simpa using this
  have B0 : Below w.heap.size w ((w.alloc (.cells s.vals.toArray 229)).alloc (.cells zero8 229)) := ((Below.refl _ _).alloc (Nat.le_refl _) _).alloc (by simp) _
  have t0 := ht.below B0
  unfold zero8 at h1 kw kr B0 t0
  generalize (w.alloc (.cells s.vals.toArray 229)).alloc (.cells _ 229) = W0 at *
  refine (schedule_any _ _ l hl _ h1).mono ?_
  rintro e W1 ⟨rfl, b1⟩
  have kw1 := kw.below b1 kw.lt
  have kr1 := kr.below b1 kr.lt
  have t1 := t0.below b1
  have B1 := B0.trans (b1.mono B0.size)
  have z1 := B1.size
  have zr := kr1.lt
  clear kw kr b1 B0 t0 h1 h ht
  have hw1 : ∀ v ∈ (wordsTo l 64).map wv, v.oneCell' = true := words_one _
  have HL : Hid (((wordsTo l 64).map wv).length = 64) := by show _ = _; rw [List.length_map, wordsTo_length]
  have HW : Hid ((wordsTo l 64).length = 64) := wordsTo_length l 64
  have HB : Hid (block8 s l = s.plus (roundsTo (wordsTo l 64) s 64)) := rfl
  obtain ⟨R, hRR⟩ : ∃ R, R = block8 s l := ⟨_, rfl⟩
  rw [← hRR] at HB
  have HRR := Lib.hid hRR
  clear hRR
  generalize wordsTo l 64 = ws at *
  go_wp2_with (refine wpList_store_kb rfl 244 (.tmp 5) (.tmp 20) rfl W1.heap.size (ws.map wv) rfl rfl 244 (rowW [] 64) (by rw [row_zero]; exact KB.new _ _ _) 64 (by kernel_rfl) (by rw [rowW_length _ _ (by simp)]) HL.out hw1 ?_; intro W2 k3 g3)
  have b2 : Below W1.heap.size W1 W2 := ((Below.refl _ _).alloc (Nat.le_refl _) _).grown g3 (by simp) (by simp)
  clear g3
  have kw2 := kw1.below b2 kw1.lt
  have kr2 := kr1.below b2 kr1.lt
  have t2 := t1.below b2
  have B2 := B1.trans (b2.mono z1)
  have z2 := B2.size
  have z3 := k3.lt
  clear kw1 kr1 t1 b2 B1
  have z4 : w.heap.size + 1 < W1.heap.size := zr
  generalize W1.heap.size = g1 at *
  have HV : Hid (s.vals = [wv s.a, wv s.b, wv s.c, wv s.d, wv s.e, wv s.f, wv s.g, wv s.h]) := rfl
  have c0 : W2.cell? ⟨w.heap.size, 0, none⟩ = some (.int .u32 (s.a : Int)) := kw2.cell 0
  have c1 : W2.cell? ⟨w.heap.size, 1, none⟩ = some (.int .u32 (s.b : Int)) := kw2.cell 1
  have c2 : W2.cell? ⟨w.heap.size, 2, none⟩ = some (.int .u32 (s.c : Int)) := kw2.cell 2
  have c3 : W2.cell? ⟨w.heap.size, 3, none⟩ = some (.int .u32 (s.d : Int)) := kw2.cell 3
  have c4 : W2.cell? ⟨w.heap.size, 4, none⟩ = some (.int .u32 (s.e : Int)) := kw2.cell 4
  have c5 : W2.cell? ⟨w.heap.size, 5, none⟩ = some (.int .u32 (s.f : Int)) := kw2.cell 5
  have c6 : W2.cell? ⟨w.heap.size, 6, none⟩ = some (.int .u32 (s.g : Int)) := kw2.cell 6
  have c7 : W2.cell? ⟨w.heap.size, 7, none⟩ = some (.int .u32 (s.h : Int)) := kw2.cell 7
  go_quiet (fail)
  go_wp2
  go_quiet (fail)
  go_wp2
  clear c0 c1 c2 c3 c4 c5 c6 c7
  go_loopw [37, 6, 7, 8, 9, 10, 11, 12, 13] (fun i a b c d e f g h wr => ∃ (k n : Nat) (v : S8), k ≤ 64 ∧ i = .int .i64 k ∧ Hid (v = roundsTo ws s k) ∧ v.Ok ∧ a = .int .u32 v.a ∧ b = .int .u32 v.b ∧ c = .int .u32 v.c ∧ d = .int .u32 v.d ∧
      e = .int .u32 v.e ∧ f = .int .u32 v.f ∧ g = .int .u32 v.g ∧ h = .int .u32 v.h ∧ Hid (wr = W2.drewN n)) (fun i _ _ _ _ _ _ _ _ _ => 64 - (intOf i).toNat)
  case atStart => exact ⟨0, _, s, by omega, rfl, rfl, hs, rfl, rfl, rfl, rfl, rfl, rfl, rfl, rfl, show _ = _ by first | rfl | exact drewN_twice _ _ _⟩
  case round =>
    obtain ⟨k, n, v, hk, rfl, HVk, ok, rfl, rfl, rfl, rfl, rfl, rfl, rfl, rfl, HWr⟩ := hrel
    by_cases hlt : k < 64
    · have r1 : wr.cell? ⟨1, k, none⟩ = some (.int .u32 ((keysL.getD k 0 : Nat) : Int)) := by rw [HWr.out]; exact t2.2 k hlt
      have HR : Hid (roundsTo ws s (k + 1) = round8 (keysL.getD k 0) (ws.getD k 0) v) := by show _ = _; rw [HVk.out]; rfl
      have r2 : wr.cell? ⟨g1, k, none⟩ = some (.int .u32 ((ws.getD k 0 : Nat) : Int)) := by
        have hk' : k < ws.length := by have := HW.out; omega
        rw [HWr.out]
        show W2.cell? _ = _
        rw [k3.cell, List.getElem?_toArray, List.getElem?_map, List.getD_eq_getElem?_getD, List.getElem?_eq_getElem hk']; rfl
      generalize keysL.getD k 0 = kk at r1 HR
      generalize ws.getD k 0 = ww at r2 HR
      have hk1 : (k : Int) < 64 := by omega
      have oe := ok.e
      have oa := ok.a
      go_wp2
      go_quiet ((first | (go_at_call 209; exact Calls.quiet_of_same (turned_e v.e oe _))))
      go_wp2_with fail
      refine (turned_a v.a oa _).mono ?_
      rintro e w' ⟨rfl, rfl⟩
      go_wp2
      go_roundw
      case rel =>
        refine ⟨k + 1, n + nq, round8 kk ww v, by omega, by go_num, HR.out.symm, round8_ok ok _ _, ?_, rfl, rfl, rfl, ?_, rfl, rfl, rfl, ?_⟩
        · rw [tOne_val ok, tTwo_val ok, add_val]; rfl
        · rw [tOne_val ok, add_val]; rfl
        · show _ = _
          rw [HWr.out, drewN_twice]
      case measure => simp [intOf]; omega
    · obtain rfl : k = 64 := by omega
      have HS : Hid (R = s.plus v) := by show _ = _; rw [HB.out, HVk.out]
      have kwr : KB wr w.heap.size 229 s.vals.toArray := by rw [HWr.out]; exact kw2
      have krr : KB wr (w.heap.size + 1) 229 zero8 := by rw [HWr.out]; exact kr2
      have Br : Below w.heap.size w wr := by rw [HWr.out]; exact Below_drawn B2 n
      have zr' : w.heap.size + 1 < wr.heap.size := krr.lt
      clear kw2 kr2 B2 t2 k3 HL HW HVk
      go_wp2
      have krr' := krr
      unfold zero8 at krr'
      obtain ⟨wo, hwo⟩ : ∃ wo : World, wo = wr := ⟨_, rfl⟩
      subst hwo
      go_loopw [97] (fun i wr => ∃ k : Nat, k ≤ 8 ∧ i = .int .i64 k ∧ KB wr w.heap.size 229 (mixV s v k).toArray ∧ wo.grownBy wr (some w.heap.size)) (fun i _ => 8 - (intOf i).toNat)
      case atStart => exact ⟨0, by omega, rfl, kwr, World.grownBy.refl _ _⟩
      case round =>
        obtain ⟨k, hk8, rfl, hkb, hgr⟩ := hrel
        by_cases h8 : k < 8
        · obtain ⟨x, y, e1, e2, e3⟩ := mixV_step s v k h8
          have cx : wr.cell? ⟨w.heap.size, k, none⟩ = some (.int .u32 (x : Int)) := by rw [hkb.cell, List.getElem?_toArray, e1]
          have fx := hkb.free k
          have hix : ∀ W : World, (Instr.index 229 (.agg #[.int .u32 v.a, .int .u32 v.b, .int .u32 v.c, .int .u32 v.d, .int .u32 v.e, .int .u32 v.f, .int .u32 v.g, .int .u32 v.h]) (.int .i64 (k : Int))).run Tryz.prog W = .ok (.int .u32 (y : Int)) W :=
            fun W => run_index_row W _ 194 8 _ _ k _ Tryz.underlying229 (by kernel_rfl) .u32 Tryz.underlying194 h8 (by simpa [S8.vals] using e2)
          have E3 := Lib.hid e3
          have hk9 : (k : Int) < 8 := by omega
          clear e1 e2 e3
          go_wp2
          go_roundw
          case rel =>
            refine ⟨k + 1, by omega, by go_num, ?_, grown_trans hgr (grown_set _ _ _ _)⟩
            have := hkb.put k (wv (add32 x y))
            rw [← E3.out, add_val]
            simpa using this
          case measure => simp [intOf]; omega
        · obtain rfl : k = 8 := by omega
          have kr8 := krr'.grown hgr (by simp)
          have B8 := Br.trans (below_of_grown' hgr (Nat.le_refl _) Br.size)
          rw [mixV_eight, ← HS.out] at hkb
          clear hgr krr krr' kwr
          go_wp2_with (first
            | (refine wpList_load_kb rfl 229 (.tmp 2) rfl w.heap.size rfl _ R.vals hkb _ Tryz.underlying229 rfl 8 (by kernel_rfl) (vals_length R) ?_)
            | (refine wpList_store_kb rfl 229 (.tmp 4) (.tmp 108) rfl (w.heap.size + 1) R.vals rfl rfl _ [wv 0, wv 0, wv 0, wv 0, wv 0, wv 0, wv 0, wv 0] kr8 8 (by kernel_rfl) rfl (vals_length R) (vals_one R) ?_; intro w9 k9 g9))
          refine bodyPost_ret (results_cell_row (P := Tryz.prog) rfl _ w9 (w.heap.size + 1) _ R.vals.toArray (0, 0) _ rfl k9 Tryz.underlying229 rfl (by rw [show R.vals.toArray.size = 8 from rfl]; kernel_rfl)) rfl ⟨by rw [HRR.out], B8.trans (below_of_grown' g9 (by omega) B8.size)⟩
end
section
open Go.ChangeShapes Go.WideShapes Go.ChangeAt Go.RowKit
theorem tRoots : (Tryz.prog.globals[1]?).map (·.type) = some 244 := by kernel_rfl
theorem cells_word : Tryz.prog.cellsOf 194 = 1 := by kernel_rfl
theorem cells_table : Tryz.prog.cellsOf 244 = 64 := by kernel_rfl
theorem roots_data : (Rows.laid_hanaper_sha_roots : DataW Unit) = .agg (keysL.map fun (x : Nat) => .lit (.int .u32 (x : Int))) := by kernel_rfl
set_option maxRecDepth 100000 in
theorem tab_of_laid {W : World} {s : String} (hs : Tryz.prog.globalNamed s = some 1) (h : laidMetH Tryz.prog [(s, Rows.laid_hanaper_sha_roots)] W) : Tab W := by
  rw [MakeChecks.laidMetH_plain _ _ _ (by kernel_rfl)] at h
  obtain ⟨ps, ⟨g0, t0, cs0, f0, p0, q0, hg0, ht0, hv0, hd0, _, _⟩, _, _⟩ := h
  obtain rfl := Option.some.inj (hs.symm.trans hg0)
  obtain rfl := Option.some.inj (tRoots.symm.trans ht0)
  rw [roots_data] at hd0
  obtain ⟨xs, m1, rfl, hx1, hlen, hn, hel⟩ := DataW.trod_array Tryz.underlying244 hd0
  simp only [Prod.mk.injEq, DataW.agg.injEq] at hx1
  rw [cells_table] at hlen
  have hcell : ∀ i, i < 64 → W.cell? ⟨1, i, none⟩ = some (.int .u32 ((keysL.getD i 0 : Nat) : Int)) := by
    intro i hi
    have h0 := hel i hi
    rw [cells_word, Nat.mul_one] at h0
    have hix : xs[i]? = some (xs[i]'(by omega)) := List.getElem?_eq_getElem (by omega)
    rw [hix] at h0
    obtain ⟨n, e1, e2, _⟩ := DataW.trod_int Tryz.underlying194 h0
    have hk : i < keysL.length := by rw [keysL_length]; exact hi
    have hxi : (xs[i]'(by omega)).1 = .lit (.int .u32 ((keysL[i] : Nat) : Int)) := by
      have := congrArg (fun l => l[i]?) hx1.1
      simp only [List.getElem?_map, hix, List.getElem?_eq_getElem hk, Option.map_some] at this
      exact (Option.some.inj this).symm
    rw [e2] at hxi
    have hn' : n = ((keysL[i] : Nat) : Int) := by simpa using hxi
    rw [World.var?_cell hg0 hv0 i]
    have hd : cs0.toList[i]? = some (.int .u32 n) := by
      have := congrArg (fun l => l[0]?) e1
      simp only [List.getElem?_take, List.getElem?_drop, Nat.add_zero] at this
      simpa using this
    rw [← Array.getElem?_toList, hd, hn']
    simp [List.getD, List.getElem?_eq_getElem hk]
  exact ⟨World.block_lt_of_cell? W _ (hcell 0 (by omega)), hcell⟩
end
section
open Go.RowKit
theorem nums_str (l : List UInt8) : strOfNums (l.map fun b => (b.toNat : Int)) = ⟨l.toArray⟩ := by
  unfold strOfNums
  congr 2
  rw [List.map_map]
  have : ((fun n : Int => UInt8.ofNat n.toNat) ∘ fun b : UInt8 => (b.toNat : Int)) = id := by
    funext b
    simp
  rw [this, List.map_id]
theorem BS.str {P : Program} {w : World} {S : Nat → Prop} {v : Value} {l : List UInt8} (h : BS w S v l) {src e dst : TypeId} (hs : P.underlying src = some (.slice e)) (he : P.underlying e = some (.int .u8)) (hd : P.underlying dst = some .string) :
    (convert src dst v).run P w = .ok (.string ⟨l.toArray⟩) w := by
  obtain ⟨A, c, rfl, hc, hm, hn⟩ := h.form
  by_cases h0 : l = []
  · subst h0
    cases A with
    | none => exact run_convert_bytes_nil w src e hs he 0 c dst hd
    | some a =>
      obtain ⟨b, o, s⟩ := a
      have hz : ∀ (a : Addr), (loadCells a 0).run P w = .ok #[] w := by
        intro a
        simp [loadCells, loadCellsFrom]
      rw [run_convert_bytes_string w src dst e _ _ _ hs he hd]
      simp [Conv.bytesToString, hz]
      rfl
  · have hp : 0 < l.length := by cases l with
    | nil => exact absurd rfl h0
    | cons a t => simp
    obtain ⟨b, o, rfl, _, _, hx⟩ := h.at_ hp
    have := run_convert_bytes_arg (P := P) w src e hs he b o l.length c (l.map fun b => (b.toNat : Int)) (by simp) (fun i hi => by
      have := hx i l[i] (List.getElem?_eq_getElem hi)
      rw [this]
      simp [List.getD, List.getElem?_eq_getElem hi]) dst hd
    rw [nums_str] at this
    exact this
theorem LS.one {w : World} {S : Nat → Prop} {x : Value} {l : List UInt8} {t : TypeId} (hx : BS w S x l) :
    LS (w.alloc (.cells #[x] t)) (fun b => S b ∨ b = w.heap.size) (.slice (some ⟨w.heap.size, 0, none⟩) 1 1) [l] := by
  refine ⟨_, 1, rfl, by simp, by simp [maxLen], fun _ => ⟨w.heap.size, 0, rfl, .inr rfl, by simp, fun j l' hj => ?_⟩⟩
  have hk := KB.new w t #[x]
  match j, hj with
  | 0, hj => simp at hj; subst hj; exact ⟨x, hk.cell 0, (hx.alloc _).mono fun b h => .inl h⟩
theorem LS.lt {w : World} {S : Nat → Prop} {v : Value} {ls : List (List UInt8)} (h : LS w S v ls) : LS w (fun b => b < w.heap.size) v ls := by
  obtain ⟨A, c, e, hl, hc, hx⟩ := h
  refine ⟨A, c, e, hl, hc, fun h0 => ?_⟩
  obtain ⟨b, o, ea, sb, hb, hx⟩ := hx h0
  refine ⟨b, o, ea, hb, hb, fun j l hj => ?_⟩
  obtain ⟨x, h1, h2⟩ := hx j l hj
  exact ⟨x, h1, h2.lt.mono fun _ h => h.2⟩
theorem LS.nil (w : World) (S : Nat → Prop) : LS w S (.slice none 0 0) [] := ⟨none, 0, rfl, by simp, by simp [maxLen], fun h => absurd h (by simp)⟩
end
section
open Go.RowKit
def secV (l : List UInt8) : Value := .agg (l.map bv).toArray
def z256 : List UInt8 := List.replicate 256 0
theorem z256_len : z256.length = 256 := List.length_replicate
theorem cells_sec : (Tryz.prog.info? 112).map (·.size) = some 256 := by kernel_rfl
theorem zero_sec (w : World) : (zeroValue 112).run Tryz.prog w = .ok (secV z256) w := by kernel_rfl
theorem info_sec : (Tryz.prog.info? 112).map (fun i => (i.zero, i.size, i.bytes)) = some (some (secV z256), 256, 256) := by kernel_rfl
def secs (l : List (List UInt8)) : List Value := l.flatten.map bv
theorem secs_len : ∀ (l : List (List UInt8)), (∀ s ∈ l, s.length = 256) → (secs l).length = l.length * 256
  | [], _ => rfl
  | s :: r, h => by
    have h1 := secs_len r fun t ht => h t (by simp [ht])
    have h2 := h s (by simp)
    simp [secs] at h1 ⊢
    rw [h1, h2]
    omega
theorem secs_append (a b : List (List UInt8)) : secs (a ++ b) = secs a ++ secs b := by simp [secs]
theorem secs_split (l : List (List UInt8)) (i : Nat) (hi : i < l.length) : secs l = secs (l.take i) ++ (l[i].map bv ++ secs (l.drop (i + 1))) := by
  have e : l = l.take i ++ (l[i] :: l.drop (i + 1)) := by rw [List.getElem_cons_drop]; simp
  have e2 := congrArg secs e
  rw [secs_append] at e2
  rw [e2]
  congr 1
  simp only [secs, List.flatten_cons, List.map_append]
theorem take_secs_len (l : List (List UInt8)) (i : Nat) (hi : i ≤ l.length) (h : ∀ s ∈ l, s.length = 256) : (secs (l.take i)).length = i * 256 := by
  rw [secs_len _ fun s hs => h s (List.mem_of_mem_take hs), List.length_take, Nat.min_eq_left hi]
section
variable {w : World} {g : Nat} {t : TypeId} {l : List (List UInt8)}
theorem KB.sec (h : KB w g t (secs l).toArray) (hl : ∀ s ∈ l, s.length = 256) (i : Nat) (hi : i < l.length) : w.rangeAt g (i * 256) (l[i].map bv) := by
  rw [secs_split l i hi] at h
  have := h.part
  rwa [take_secs_len l i (by omega) hl] at this
theorem secs_set (hl : ∀ s ∈ l, s.length = 256) (i : Nat) (hi : i < l.length) (s : List UInt8) (hs : s.length = 256) : splice (secs l) (i * 256) (s.map bv) = secs (l.set i s) := by
  have e1 := secs_split l i hi
  have e2 := secs_split (l.set i s) i (by simpa using hi)
  rw [e1, e2, ← take_secs_len l i (by omega) hl, splice_mid _ _ _ _ (by simp [hs, hl l[i] (List.getElem_mem hi)])]
  simp [List.take_set_of_le, List.drop_set_of_lt]
end
theorem secs_rep (k : Nat) : ∀ n : Nat, secs (List.replicate n (List.replicate k 0)) = List.replicate (n * k) (bv 0)
  | 0 => by simp [secs]
  | n + 1 => by
    rw [List.replicate_succ, show (List.replicate k (0 : UInt8) :: List.replicate n (List.replicate k 0)) = [List.replicate k 0] ++ List.replicate n (List.replicate k 0) from rfl, secs_append, secs_rep k n]
    simp only [secs, List.flatten_cons, List.flatten_nil, List.append_nil, List.map_replicate]
    rw [List.replicate_append_replicate, Nat.succ_mul, Nat.add_comm]
theorem z256_cells : (secV z256).cells = Array.replicate 256 (bv 0) := by
  show (z256.map bv).toArray = _
  unfold z256
  rw [List.map_replicate, List.toArray_replicate]
theorem madeCells_sec (n : Nat) : madeCells (secV z256).cells (n * 256) = (secs (List.replicate n z256)).toArray := by
  rw [madeCells_of _ _ 256 n (by omega) z256_cells]
  unfold z256
  rw [secs_rep, List.toArray_replicate]
end
end Go.Proofs.YteddmnoeljakpaaGreatDoor
