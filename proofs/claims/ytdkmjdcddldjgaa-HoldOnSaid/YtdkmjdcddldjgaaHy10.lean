/-
  Row: Own words for memory, over any program: parts of a block that is known whole, read and written as wholes; copy into such a block. No condition; nothing of the dump is used here.
  Rwk: General: copy of whole rows of k cells into a block that is known whole, whatever the two slices are (nil, empty, cut or not). No condition; nothing of the dump is used here.
  ScB: Plain mathematics of layer 20 (scope): how many parts more there may be behind a scope, kid by kid; what fits, by the kind. No program. No condition.
  InR: Which names may be: the document's Name (layer 12), over the loaded program: its contract. No condition but sizes that each contract names.
-/
import Derived.Test.YtdkmjdcddldjgaaHy09
import Derived.Test.YtdkmjdcddldjgaaHy00
import Derived.Deep.MidRow
import Derived.Laws.CopyOwn
import Derived.StillTailTactics
import Derived.Test.YtdkmjdcddldjgaaHy01
import Derived.Test.YtdkmjdcddldjgaaHy02
import Derived.Lib.Strings
set_option linter.unusedVariables false
set_option maxRecDepth 100000
namespace Go.Proofs.Ytdkmjdcddldjgaa
section
open Go.RowKit
theorem splice_nil {α : Type} (cs : List α) (o : Nat) : splice cs o [] = cs := by simp [splice]
theorem splice_all {α : Type} (cs vs : List α) (h : vs.length = cs.length) : splice cs 0 vs = vs := by simp [splice, h]
theorem splice_mid {α : Type} (a b c vs : List α) (h : vs.length = b.length) : splice (a ++ (b ++ c)) a.length vs = a ++ (vs ++ c) := by
  unfold splice
  rw [List.take_left, List.drop_append, List.drop_of_length_le (by omega), List.nil_append, Nat.add_sub_cancel_left, h, List.drop_left]
theorem splice_cons {α : Type} (cs : List α) (o : Nat) (v : α) (r : List α) (h : o < cs.length) : splice (cs.set o v) (o + 1) r = splice cs o (v :: r) := by
  unfold splice
  have e1 : (cs.set o v).take (o + 1) = cs.take o ++ [v] := by
    rw [List.take_add_one, List.getElem?_set_self h, List.take_set_of_le (Nat.le_refl _)]; rfl
  have e2 : (cs.set o v).drop (o + 1 + r.length) = cs.drop (o + (v :: r).length) := by
    rw [List.drop_set_of_lt (by omega), List.length_cons]; congr 1; omega
  rw [e1, e2]
  simp
section
variable {w w' : World} {g : Nat} {t : TypeId} {cs : List Value}
theorem KB.range (h : KB w g t cs.toArray) : w.rangeAt g 0 cs := fun j v hj => by
  rw [h.cell, Nat.zero_add, List.getElem?_toArray, hj]
theorem KB.part {a b c : List Value} (h : KB w g t (a ++ (b ++ c)).toArray) : w.rangeAt g a.length b := fun j v hj => by
  have hl := (List.getElem?_eq_some_iff.1 hj).1
  rw [h.cell, List.getElem?_toArray, List.getElem?_append_right (by omega), Nat.add_sub_cancel_left, List.getElem?_append_left hl, hj]
theorem KB.there (h : KB w g t cs.toArray) (o n : Nat) (hn : o + n ≤ cs.length) : w.there g o n := fun j hj => by
  refine ⟨?_, h.free _⟩
  rw [h.cell, List.getElem?_toArray, List.getElem?_eq_getElem (by omega)]; rfl
theorem KB.setCells : ∀ (vs : List Value) (o : Nat) (w : World) (cs : List Value), KB w g t cs.toArray → o + vs.length ≤ cs.length → KB (w.setCells g o vs) g t (splice cs o vs).toArray
  | [], o, w, cs, h, _ => by rw [splice_nil]; exact h
  | v :: r, o, w, cs, h, hl => by
    simp only [List.length_cons] at hl
    have h1 : KB (w.setCell ⟨g, o, none⟩ v) g t (cs.set o v).toArray := by
      have := h.put o v
      simpa using this
    have := KB.setCells r (o + 1) _ _ h1 (by simp; omega)
    rw [splice_cons cs o v r (by omega)] at this
    exact this
theorem grown_cells (w : World) (g : Nat) : ∀ (vs : List Value) (o : Nat) (w : World), w.grownBy (w.setCells g o vs) (some g)
  | [], _, w => World.grownBy.refl _ _
  | v :: r, o, w => grown_trans (grown_set w g o v) (grown_cells w g r (o + 1) _)
end
section
variable {P : Program} {ops : Array Oper} {rest : List Oper} {o : Oper} {a : Act} {w : World} {Q : Exit → Act → World → Prop}
theorem wpList_load_kb (hgd : o.guard = none) (ty : TypeId) (x : Operand) (ho : o.op = .load ty x) (g : Nat) (hx : a.eval x = .pointer (some ⟨g, 0, none⟩)) (t : TypeId) (cs : List Value) (h : KB w g t cs.toArray)
    (d : TypeDesc) (hu : P.underlying ty = some d) (hd : d.isRow = true) (n : Nat) (hi : (P.info? ty).map (·.size) = some n) (hn : cs.length = n)
    (k : wpList P ops Q rest (a.put o.dst (.agg cs.toArray)) w) : wpList P ops Q (o :: rest) a w :=
  wpList_load_mid hgd ty x ho g 0 hx cs d h.range hu hd (by rw [hi, hn]) k
theorem wpList_store_kb (hgd : o.guard = none) (ty : TypeId) (x y : Operand) (ho : o.op = .store ty x y) (g : Nat) (vs : List Value) (hx : a.eval x = .pointer (some ⟨g, 0, none⟩)) (hy : a.eval y = .agg vs.toArray)
    (t : TypeId) (cs : List Value) (h : KB w g t cs.toArray) (n : Nat) (hi : (P.info? ty).map (·.size) = some n) (hn : cs.length = n) (hv : vs.length = n) (h1 : ∀ v ∈ vs, v.oneCell' = true)
    (k : ∀ w', KB w' g t vs.toArray → w.grownBy w' (some g) → wpList P ops Q rest (a.put o.dst undef) w') : wpList P ops Q (o :: rest) a w := by
  refine wpList_store_mid hgd ty x y ho g 0 vs.toArray hx hy (h.there 0 _ (by simp; omega)) (by simp [hi, hv]) (all_oneCell_toArray h1) ?_
  have := KB.setCells vs 0 w cs h (by omega)
  rw [splice_all _ _ (by omega)] at this
  exact k _ this (grown_cells w g _ _ _)
theorem wpList_store_part (hgd : o.guard = none) (ty : TypeId) (x y : Operand) (ho : o.op = .store ty x y) (g off : Nat) (vs : List Value) (hx : a.eval x = .pointer (some ⟨g, off, none⟩)) (hy : a.eval y = .agg vs.toArray)
    (t : TypeId) (cs : List Value) (h : KB w g t cs.toArray) (n : Nat) (hi : (P.info? ty).map (·.size) = some n) (hv : vs.length = n) (hfit : off + n ≤ cs.length) (h1 : ∀ v ∈ vs, v.oneCell' = true)
    (k : ∀ w', KB w' g t (splice cs off vs).toArray → w.grownBy w' (some g) → wpList P ops Q rest (a.put o.dst undef) w') : wpList P ops Q (o :: rest) a w := by
  refine wpList_store_mid hgd ty x y ho g off vs.toArray hx hy (h.there off _ (by simp; omega)) (by simp [hi, hv]) (all_oneCell_toArray h1) ?_
  exact k _ (KB.setCells vs off w cs h (by omega)) (grown_cells w g _ _ _)
theorem wpList_load_part (hgd : o.guard = none) (ty : TypeId) (x : Operand) (ho : o.op = .load ty x) (g off : Nat) (hx : a.eval x = .pointer (some ⟨g, off, none⟩)) (cs : List Value) (h : w.rangeAt g off cs)
    (d : TypeDesc) (hu : P.underlying ty = some d) (hd : d.isRow = true) (n : Nat) (hi : (P.info? ty).map (·.size) = some n) (hn : cs.length = n)
    (k : wpList P ops Q rest (a.put o.dst (.agg cs.toArray)) w) : wpList P ops Q (o :: rest) a w :=
  wpList_load_mid hgd ty x ho g off hx cs d h hu hd (by rw [hi, hn]) k
theorem run_copy_kb (dT sT ty : TypeId) (elem : TypeId) (hu : P.underlying dT = some (.slice elem)) (hsz : (P.info? elem).map (·.size) = some 1)
    (g off dLen dCap : Nat) (t : TypeId) (cs : List Value) (h : KB w g t cs.toArray) (hfit : off + dLen ≤ cs.length) (S : Nat → Prop) (xv : Value) (ys : List UInt8) (hx : BS w S xv ys) :
    ∃ w' n, (Builtin.copy_ #[dT, sT] ty #[.slice (some ⟨g, off, none⟩) dLen dCap, xv]).run P w = .ok (goInt n) w' ∧ KB w' g t (splice cs off ((ys.take dLen).map bv)).toArray ∧ w.grownBy w' (some g) ∧ n = Nat.min ys.length dLen := by
  obtain ⟨A, c, rfl, hc, hm, hn⟩ := hx.form
  have hlen : ((ys.take dLen).map bv).length = Nat.min ys.length dLen := by
    simp only [List.length_map, List.length_take]
    exact Nat.min_comm _ _
  by_cases h0 : Nat.min ys.length dLen = 0
  · have e : (ys.take dLen).map bv = [] := List.eq_nil_of_length_eq_zero (by omega)
    refine ⟨w, _, run_copy_none (P := P) w dT sT ty elem _ _ _ _ _ _ hu hsz h0, by rw [e, splice_nil]; exact h, World.grownBy.refl _ _, ?_⟩
    exact_mod_cast h0.symm
  · have hle : Nat.min ys.length dLen ≤ dLen := Nat.min_le_right _ _
    have hle2 : Nat.min ys.length dLen ≤ ys.length := Nat.min_le_left _ _
    obtain ⟨b, o', rfl, sb, hb, hcell⟩ := hx.at_ (by omega)
    have hsrc : ∀ j v, ((ys.take dLen).map bv)[j]? = some v → w.cell? ((⟨b, o', none⟩ : Addr).add j) = some v := by
      intro j v hj
      have hjl := (List.getElem?_eq_some_iff.1 hj).1
      rw [hlen] at hjl
      have := hx.news j v (by
        rw [← hj, List.getElem?_map, List.getElem?_map, List.getElem?_take, if_pos (by omega)])
      exact this
    have hrun := run_copy_row (P := P) w dT sT ty elem g off dLen dCap ⟨b, o', none⟩ _ c cs.toArray t _ hu hsz h hlen hsrc (by rw [hlen]; simp; omega) (bytes_one _)
    have e : (cs.toArray.toList.take off ++ ((ys.take dLen).map bv ++ cs.toArray.toList.drop (off + ((ys.take dLen).map bv).length))) = splice cs off ((ys.take dLen).map bv) := rfl
    rw [List.append_assoc, e, hlen] at hrun
    exact ⟨_, _, hrun, setRow_heap w g _ _ t _ h, ⟨rfl, rfl, rfl, by simp [World.setRow], fun i hi hr => setRow_other w g i _ (fun e => hr (by rw [e]))⟩, rfl⟩
theorem wpList_copy_kb (hgd : o.guard = none) (d s : Operand) (dT sT : TypeId) (ho : o.op = .call { callee := .builtin .copy, args := #[d, s], argTypes := #[dT, sT] })
    (elem : TypeId) (hu : P.underlying dT = some (.slice elem)) (hsz : (P.info? elem).map (·.size) = some 1)
    (g off dLen dCap : Nat) (hd : a.eval d = .slice (some ⟨g, off, none⟩) dLen dCap) (t : TypeId) (cs : List Value) (h : KB w g t cs.toArray) (hfit : off + dLen ≤ cs.length)
    (S : Nat → Prop) (xv : Value) (ys : List UInt8) (hs : a.eval s = xv) (hx : BS w S xv ys)
    (k : ∀ w', KB w' g t (splice cs off ((ys.take dLen).map bv)).toArray → w.grownBy w' (some g) → wpList P ops Q rest (a.put o.dst (goInt (Nat.min ys.length dLen))) w') : wpList P ops Q (o :: rest) a w := by
  refine wpList_plain hgd fun K hK => ?_
  obtain ⟨w', n, hrun, hk, hg, rfl⟩ := run_copy_kb (P := P) dT sT o.type elem hu hsz g off dLen dCap t cs h hfit S xv ys hx
  unfold Oper.wp execOp
  simp only [ho, resolve, invoke, builtin, Sem.run_bind, Sem.run_pure, Result.andThen_ok, List.map_toArray, List.map_cons, List.map_nil, hd, hs, hrun]
  exact hK _ _ (k w' hk hg)
theorem wp_copy_kb {K : Act → World → Prop} (d s : Operand) (dT sT : TypeId) (ho : o.op = .call { callee := .builtin .copy, args := #[d, s], argTypes := #[dT, sT] })
    (elem : TypeId) (hu : P.underlying dT = some (.slice elem)) (hsz : (P.info? elem).map (·.size) = some 1)
    (g off dLen dCap : Nat) (hd : a.eval d = .slice (some ⟨g, off, none⟩) dLen dCap) (t : TypeId) (cs : List Value) (h : KB w g t cs.toArray) (hfit : off + dLen ≤ cs.length)
    (S : Nat → Prop) (xv : Value) (ys : List UInt8) (hs : a.eval s = xv) (hx : BS w S xv ys)
    (k : ∀ w', KB w' g t (splice cs off ((ys.take dLen).map bv)).toArray → w.grownBy w' (some g) → K (a.put o.dst (goInt (Nat.min ys.length dLen))) w') : Oper.wp P o a w K Q := by
  obtain ⟨w', n, hrun, hk, hg, rfl⟩ := run_copy_kb (P := P) dT sT o.type elem hu hsz g off dLen dCap t cs h hfit S xv ys hx
  unfold Oper.wp execOp
  simp only [ho, resolve, invoke, builtin, Sem.run_bind, Sem.run_pure, Result.andThen_ok, List.map_toArray, List.map_cons, List.map_nil, hd, hs, hrun]
  exact k w' hk hg
end
theorem madeCells_of (z : Value) (c : Value) (k n : Nat) (hk : 0 < k) (hz : z.cells = Array.replicate k c) : madeCells z.cells (n * k) = Array.replicate (n * k) c := by
  rw [hz]
  apply Array.ext
  · rw [size_madeCells, Array.size_replicate]
  · intro i h1 h2
    simp only [madeCells, Array.getElem_map, Array.getElem_range, Array.size_replicate, Array.getElem_replicate]
    have h3 : i % k < (Array.replicate k c).size := by rw [Array.size_replicate]; exact Nat.mod_lt _ hk
    rw [getElem!_pos (Array.replicate k c) (i % k) h3, Array.getElem_replicate]
theorem run_index_row {P : Program} (w : World) (t e : TypeId) (n : Nat) (cs : Array Value) (k : IntKind) (i : Nat) (v : Value) (h : P.underlying t = some (.array n e)) (hs : (P.info? e).map (·.size) = some 1)
    (ik : IntKind) (ha : P.underlying e = some (.int ik)) (hn : i < n) (hv : cs[i]? = some v) :
    (Instr.index t (.agg cs) (.int k (i : Int))).run P w = .ok v w := by
  have hi : (0 ≤ (i : Int) ∧ (i : Int) < (n : Int)) := by omega
  cases hq : P.info? e with
  | none => simp [hq] at hs
  | some j =>
    have hz : j.size = 1 := by simpa [hq] using hs
    have hagg : (isAgg e).run P w = .ok false w := by simp [isAgg, run_underlying ha]
    simp [Instr.index, run_underlying h, asIntOf, hi, hz, hv, sizeOf, typeInfo, hq, hagg, hn, go_sem]
end
section
open Go.RowKit
section
variable {P : Program} {ops : Array Oper} {rest : List Oper} {o : Oper} {a : Act} {w : World} {Q : Exit → Act → World → Prop}
theorem run_copy_rowk (w : World) (dT sT ty elem : TypeId) (k : Nat) (hu : P.underlying dT = some (.slice elem)) (hsz : (P.info? elem).map (·.size) = some k) (hk0 : 0 < k)
    (dp sp : Option Addr) (dLen dCap sLen sCap : Nat) (g off : Nat) (t : TypeId) (cur : List Value) (h : KB w g t cur.toArray) (cs : List Value) (hn : cs.length = Nat.min sLen dLen * k)
    (hpos : 0 < cs.length → dp = some ⟨g, off, none⟩ ∧ ∃ ad, sp = some ad ∧ ∀ j v, cs[j]? = some v → w.cell? (ad.add j) = some v) (hfit : off + cs.length ≤ cur.length) (h1 : ∀ v ∈ cs, v.oneCell' = true) :
    ∃ w', (Builtin.copy_ #[dT, sT] ty #[.slice dp dLen dCap, .slice sp sLen sCap]).run P w = .ok (goInt (Nat.min sLen dLen)) w' ∧ KB w' g t (splice cur off cs).toArray ∧ w.grownBy w' (some g) := by
  cases hq : P.info? elem with
  | none => simp [hq] at hsz
  | some i =>
    have hi : i.size = k := by simpa [hq] using hsz
    by_cases h0 : Nat.min sLen dLen = 0
    · obtain rfl : cs = [] := List.eq_nil_of_length_eq_zero (by rw [hn, h0, Nat.zero_mul])
      refine ⟨w, ?_, by rw [splice_nil]; exact h, World.grownBy.refl _ _⟩
      have hl : ∀ (x : Addr), (loadCells x 0).run P w = .ok #[] w := fun x => by simpa using run_loadCells_list (P := P) w x [] (by simp)
      rw [h0]
      cases dp <;> cases sp <;> simp [Builtin.copy_, run_underlying hu, Builtin.lenOf, Builtin.firstCells, sizeOf, typeInfo, hq, h0, storeCells, hl]
    · have hp : 0 < cs.length := by rw [hn]; exact Nat.mul_pos (by omega) hk0
      obtain ⟨rfl, ad, rfl, hsrc⟩ := hpos hp
      have hl := run_loadCells_list (P := P) w ad cs hsrc
      have hst := run_storeCells_at P g off t cs 0 cur.toArray w h (by simpa using hfit) h1
      refine ⟨_, ?_, setRow_heap w g _ _ t _ h, ⟨rfl, rfl, rfl, by simp [World.setRow], fun i hi hr => setRow_other w g i _ (fun e => hr (by rw [e]))⟩⟩
      have e : (cur.toArray.toList.take (off + 0) ++ cs ++ cur.toArray.toList.drop (off + 0 + cs.length)).toArray = (splice cur off cs).toArray := by simp [splice]
      rw [e] at hst
      simp [Builtin.copy_, run_underlying hu, Builtin.lenOf, Builtin.firstCells, sizeOf, typeInfo, hq, hi, ← hn, hl, hst]
theorem wpList_copy_rowk (hgd : o.guard = none) (d s : Operand) (dT sT : TypeId) (ho : o.op = .call { callee := .builtin .copy, args := #[d, s], argTypes := #[dT, sT] })
    (elem : TypeId) (k : Nat) (hu : P.underlying dT = some (.slice elem)) (hsz : (P.info? elem).map (·.size) = some k) (hk0 : 0 < k)
    (dp sp : Option Addr) (dLen dCap sLen sCap : Nat) (hd : a.eval d = .slice dp dLen dCap) (hs : a.eval s = .slice sp sLen sCap) (g off : Nat) (t : TypeId) (cur : List Value) (h : KB w g t cur.toArray) (cs : List Value) (hn : cs.length = Nat.min sLen dLen * k)
    (hpos : 0 < cs.length → dp = some ⟨g, off, none⟩ ∧ ∃ ad, sp = some ad ∧ ∀ j v, cs[j]? = some v → w.cell? (ad.add j) = some v) (hfit : off + cs.length ≤ cur.length) (h1 : ∀ v ∈ cs, v.oneCell' = true)
    (K : ∀ w', KB w' g t (splice cur off cs).toArray → w.grownBy w' (some g) → wpList P ops Q rest (a.put o.dst (goInt (Nat.min sLen dLen))) w') : wpList P ops Q (o :: rest) a w := by
  refine wpList_plain hgd fun K' hK => ?_
  obtain ⟨w', hrun, hk, hg⟩ := run_copy_rowk (P := P) w dT sT o.type elem k hu hsz hk0 dp sp dLen dCap sLen sCap g off t cur h cs hn hpos hfit h1
  unfold Oper.wp execOp
  simp only [ho, resolve, invoke, builtin, Sem.run_bind, Sem.run_pure, Result.andThen_ok, List.map_toArray, List.map_cons, List.map_nil, hd, hs, hrun]
  exact hK _ _ (K w' hk hg)
theorem wp_copy_rowk {K : Act → World → Prop} (d s : Operand) (dT sT : TypeId) (ho : o.op = .call { callee := .builtin .copy, args := #[d, s], argTypes := #[dT, sT] })
    (elem : TypeId) (k : Nat) (hu : P.underlying dT = some (.slice elem)) (hsz : (P.info? elem).map (·.size) = some k) (hk0 : 0 < k)
    (dp sp : Option Addr) (dLen dCap sLen sCap : Nat) (hd : a.eval d = .slice dp dLen dCap) (hs : a.eval s = .slice sp sLen sCap) (g off : Nat) (t : TypeId) (cur : List Value) (h : KB w g t cur.toArray) (cs : List Value) (hn : cs.length = Nat.min sLen dLen * k)
    (hpos : 0 < cs.length → dp = some ⟨g, off, none⟩ ∧ ∃ ad, sp = some ad ∧ ∀ j v, cs[j]? = some v → w.cell? (ad.add j) = some v) (hfit : off + cs.length ≤ cur.length) (h1 : ∀ v ∈ cs, v.oneCell' = true)
    (hK : ∀ w', KB w' g t (splice cur off cs).toArray → w.grownBy w' (some g) → K (a.put o.dst (goInt (Nat.min sLen dLen))) w') : Oper.wp P o a w K Q := by
  obtain ⟨w', hrun, hk, hg⟩ := run_copy_rowk (P := P) w dT sT o.type elem k hu hsz hk0 dp sp dLen dCap sLen sCap g off t cur h cs hn hpos hfit h1
  unfold Oper.wp execOp
  simp only [ho, resolve, invoke, builtin, Sem.run_bind, Sem.run_pure, Result.andThen_ok, List.map_toArray, List.map_cons, List.map_nil, hd, hs, hrun]
  exact hK w' hk hg
end
end
section
def leftS (f : Nat) (x : Sc f) (n d : Int) : Int := if okS f x d = true ∧ (nodesS f x : Int) ≤ n then n - nodesS f x else -1
def sumS (f : Nat) (ks : List (Sc f)) (j : Nat) : Nat := ((ks.take j).map (nodesS f)).sum
theorem zsum_split {f : Nat} (ks : List (Sc f)) (j : Nat) : (ks.map (nodesS f)).sum = sumS f ks j + ((ks.drop j).map (nodesS f)).sum := by
  unfold sumS
  rw [← List.sum_append, ← List.map_append, List.take_append_drop]
theorem sumS_step {f : Nat} (ks : List (Sc f)) (j : Nat) (hj : j < ks.length) : sumS f ks (j + 1) = sumS f ks j + nodesS f ks[j] := by
  unfold sumS
  rw [List.take_add_one, List.getElem?_eq_getElem hj, List.map_append, List.sum_append]
  simp
theorem sumS_le {f : Nat} (ks : List (Sc f)) (j : Nat) : sumS f ks j ≤ (ks.map (nodesS f)).sum := by have := zsum_split ks j; omega
theorem zallS_step {f : Nat} {ks : List (Sc f)} {d : Int} {j : Nat} (hj : j < ks.length) (h : ((ks.take j).all fun u => okS f u d) = true) (hk : okS f ks[j] d = true) : ((ks.take (j + 1)).all fun u => okS f u d) = true := by
  rw [List.take_add_one, List.getElem?_eq_getElem hj, List.all_append, h]
  simp [hk]
theorem zallS_stop {f : Nat} {ks : List (Sc f)} {d : Int} {j : Nat} (hj : j < ks.length) (hk : okS f ks[j] d = false) : (ks.all fun u => okS f u d) = false := by
  cases hq : ks.all fun u => okS f u d with
  | false => rfl
  | true =>
    have := List.all_eq_true.1 hq ks[j] (List.getElem_mem hj)
    rw [hk] at this
    cases this
theorem zleft_low {f : Nat} (x : Sc f) {n d : Int} (h : n < 1) : leftS f x n d = -1 := by
  unfold leftS
  have := nodesS_pos f x
  rw [if_neg (fun h => by omega)]
theorem zleft_flat {f : Nat} (x : Ns (Sc f)) {n d : Int} (h : d < 1) : leftS (f + 1) x n d = -1 := by
  unfold leftS
  rw [okS_eq, decide_eq_false (by omega), if_neg (by simp)]
theorem zleft_unfit {f : Nat} (x : Ns (Sc f)) {n d : Int} (h : fitsS x = false) : leftS (f + 1) x n d = -1 := by
  unfold leftS
  rw [okS_eq, h, if_neg (by simp)]
theorem zleft_one {f : Nat} (x : Ns (Sc f)) {n d : Int} (h : fitsS x = true) (hk : x.kids.length = 0) (hn : 1 ≤ n) (hd : 1 ≤ d) : leftS (f + 1) x n d = n - 1 := by
  unfold leftS
  rw [okS_eq, h, decide_eq_true hd, nodesS_eq, List.eq_nil_of_length_eq_zero hk]
  rw [if_pos ⟨by simp, by simp; omega⟩]
  simp
theorem zleft_wide {f : Nat} (x : Ns (Sc f)) {n d : Int} (h : n - 1 < (x.kids.length : Int)) : leftS (f + 1) x n d = -1 := by
  unfold leftS
  have := nodesS_len f x.kids
  rw [nodesS_eq, if_neg (fun h => by omega)]
theorem zleft_all {f : Nat} (x : Ns (Sc f)) {n d m : Int} (h : fitsS x = true) (hd : 1 ≤ d) (ha : ((x.kids.take x.kids.length).all fun u => okS f u (d - 1)) = true) (hm : m = n - 1 - (sumS f x.kids x.kids.length : Int)) (h0 : 0 ≤ m) : leftS (f + 1) x n d = m := by
  unfold leftS
  rw [List.take_length] at ha
  have hs : sumS f x.kids x.kids.length = (x.kids.map (nodesS f)).sum := by unfold sumS; rw [List.take_length]
  rw [hs] at hm
  rw [okS_eq, h, decide_eq_true hd, ha, nodesS_eq, if_pos ⟨rfl, by omega⟩]
  omega
theorem zleft_stop {f : Nat} (x : Ns (Sc f)) {n d m : Int} {j : Nat} (hj : j < x.kids.length) (hm : m = n - 1 - (sumS f x.kids j : Int)) (h : leftS f x.kids[j] m (d - 1) < 0) : leftS (f + 1) x n d = -1 := by
  unfold leftS at h ⊢
  have h1 := sumS_step x.kids j hj
  have h2 := sumS_le x.kids (j + 1)
  by_cases hk : okS f x.kids[j] (d - 1) = true
  · by_cases hn : (nodesS f x.kids[j] : Int) ≤ m
    · rw [if_pos ⟨hk, hn⟩] at h
      omega
    · rw [nodesS_eq, if_neg (fun h => by omega)]
  · rw [okS_eq, zallS_stop hj (by simpa using hk), if_neg (by simp)]
theorem zleft_step {f : Nat} (x : Ns (Sc f)) {n d m : Int} {j : Nat} (hj : j < x.kids.length) (hm : m = n - 1 - (sumS f x.kids j : Int)) (ha : ((x.kids.take j).all fun u => okS f u (d - 1)) = true) (h : 0 ≤ leftS f x.kids[j] m (d - 1)) :
    leftS f x.kids[j] m (d - 1) = n - 1 - (sumS f x.kids (j + 1) : Int) ∧ ((x.kids.take (j + 1)).all fun u => okS f u (d - 1)) = true := by
  unfold leftS at h ⊢
  have h1 := sumS_step x.kids j hj
  by_cases hk : okS f x.kids[j] (d - 1) = true ∧ (nodesS f x.kids[j] : Int) ≤ m
  · rw [if_pos hk] at h ⊢
    exact ⟨by omega, zallS_step hj ha hk.1⟩
  · rw [if_neg hk] at h
    omega
theorem zleft_le {f : Nat} (x : Sc f) (n d : Int) (hn : -1 ≤ n) : -1 ≤ leftS f x n d ∧ leftS f x n d ≤ n := by
  unfold leftS
  split
  · rename_i h
    exact ⟨by omega, by omega⟩
  · exact ⟨by omega, hn⟩
theorem zleft_may {f : Nat} (x : Sc f) : decide (0 ≤ leftS f x 24 8) = mayS f x := by
  unfold leftS mayS
  by_cases h : okS f x 8 = true ∧ (nodesS f x : Int) ≤ 24
  · rw [if_pos h, h.1, decide_eq_true (by omega), decide_eq_true (by omega)]; rfl
  · rw [if_neg h, decide_eq_false (by omega)]
    cases hk : okS f x 8 with
    | false => rfl
    | true => rw [decide_eq_false (fun hn => h ⟨hk, by omega⟩)]; rfl
/-! What fits, by the kind. -/
theorem zfit_named {α : Type} {x : Ns α} (h : x.op = 2 ∨ x.op = 3 ∨ x.op = 4) : fitsS x = true ↔ nameS x.name = true ∧ x.from_ = 0 ∧ x.to_ = 0 ∧ x.kids.length = 0 := by
  have h1 : namedS x.op = true := by unfold namedS; exact decide_eq_true h
  have h2 : manyS x.op = false := by unfold manyS; exact decide_eq_false (by omega)
  rw [fits_iff, h1, if_pos rfl, if_neg (by omega : ¬ x.op = 5)]
  unfold kidsOk
  rw [h2, if_neg (by decide), if_neg (by omega : ¬ x.op = 8), decide_eq_true_eq, decide_eq_true_eq]
  exact ⟨fun h => ⟨h.2.1, h.2.2.1.1, h.2.2.1.2, h.2.2.2⟩, fun h => ⟨by omega, h.1, ⟨h.2.1, h.2.2.1⟩, h.2.2.2⟩⟩
theorem zfit_all {α : Type} {x : Ns α} (h : x.op = 1) : fitsS x = true ↔ x.name = [] ∧ x.from_ = 0 ∧ x.to_ = 0 ∧ x.kids.length = 0 := by
  rw [fits_iff, h]
  simp [namedS, manyS, kidsOk, and_assoc]
theorem zfit_time {α : Type} {x : Ns α} (h : x.op = 5) : fitsS x = true ↔ x.name = [] ∧ (0 ≤ x.from_ ∧ x.from_ ≤ x.to_ ∧ x.to_ ≤ 1099511627776) ∧ x.kids.length = 0 := by
  rw [fits_iff, h]
  simp [namedS, manyS, kidsOk, and_assoc]
theorem zfit_many {α : Type} {x : Ns α} (h : x.op = 6 ∨ x.op = 7) : fitsS x = true ↔ x.name = [] ∧ x.from_ = 0 ∧ x.to_ = 0 ∧ 2 ≤ x.kids.length := by
  rw [fits_iff]
  rcases h with h | h <;> rw [h] <;> simp [namedS, manyS, kidsOk, and_assoc]
theorem zfit_not {α : Type} {x : Ns α} (h : x.op = 8) : fitsS x = true ↔ x.name = [] ∧ x.from_ = 0 ∧ x.to_ = 0 ∧ x.kids.length = 1 := by
  rw [fits_iff, h]
  simp [namedS, manyS, kidsOk, and_assoc]
theorem zunfit_op {α : Type} {x : Ns α} (h : x.op < 1 ∨ 8 < x.op) : fitsS x = false := by
  cases hb : fitsS x with
  | false => rfl
  | true => have := ((fits_iff x).1 hb).1; omega
end
section
open Go.RowKit
theorem str_at (l : List UInt8) (k : Nat) (x : UInt8) (hx : l[k]? = some x) : ∀ W : World, (Instr.index 9 (.string ⟨l.toArray⟩) (.int .i64 (k : Int))).run Try.prog W = .ok (.int .u8 (x.toNat : Int)) W := fun W => by
  have hk := (List.getElem?_eq_some_iff.1 hx).1
  have hs : (⟨l.toArray⟩ : ByteArray).size = l.length := rfl
  rw [run_index_string W 9 ⟨l.toArray⟩ .i64 (k : Int) Try.underlying9, dif_pos ⟨by omega, by rw [hs]; omega⟩]
  simp only [Int.toNat_natCast]
  have e : (⟨l.toArray⟩ : ByteArray)[k]'(by rw [hs]; exact hk) = x := by
    have := (List.getElem?_eq_some_iff.1 hx).2
    exact this
  rw [e]
theorem all_step {l : List UInt8} {k : Nat} {x : UInt8} (hx : l[k]? = some x) (h : ((l.take k).all fun b => okc b.toNat) = true) (ho : okc x.toNat = true) : ((l.take (k + 1)).all fun b => okc b.toNat) = true := by
  rw [List.take_add_one, hx, List.all_append, h]
  simp [ho]
theorem all_stop {l : List UInt8} {k : Nat} {x : UInt8} (hx : l[k]? = some x) (ho : okc x.toNat = false) : nameS l = false := by
  unfold nameS
  have : (l.all fun b => okc b.toNat) = false := by
    cases hq : l.all fun b => okc b.toNat with
    | false => rfl
    | true =>
      have := List.all_eq_true.1 hq x (List.mem_of_getElem? hx)
      rw [ho] at this
      cases this
  rw [this]; simp
set_option maxHeartbeats 2000000 in
theorem rname_any (l : List UInt8) (hl : l.length ≤ maxLen) (w : World) :
    Calls Try.prog 26 #[strV l] w fun e w' => e = .returned (.bool (nameS l)) ∧ w = w' := by
  have hs : ((⟨l.toArray⟩ : ByteArray).size : Int) = (l.length : Int) := rfl
  have hat := str_at l
  have HAT := Lib.hid hat
  have hml : l.length ≤ 9223372036854775807 := by unfold maxLen at hl; omega
  obtain ⟨r, hr⟩ : ∃ r, r = nameS l := ⟨_, rfl⟩
  rw [← hr]
  have HR := Lib.hid hr
  unfold strV
  clear hat hr hl
  have HAT2 : Hid (∀ s : ByteArray, s = ⟨l.toArray⟩ → ∀ (k : Nat) (x : UInt8), l[k]? = some x → ∀ W : World, (Instr.index 9 (.string s) (.int .i64 (k : Int))).run Try.prog W = .ok (.int .u8 (x.toNat : Int)) W) := fun s e => by subst e; exact HAT.out
  obtain ⟨s, hse⟩ : ∃ s : ByteArray, s = ⟨l.toArray⟩ := ⟨_, rfl⟩
  rw [← hse] at hs ⊢
  replace HAT := Lib.hid (HAT2.out s hse)
  clear HAT2 hse
  go_enter Try.func26, Try.ntmps26
  go_wp2
  go_loop [3] (fun i => ∃ k : Nat, k ≤ l.length ∧ i = .int .i64 k ∧ Hid (((l.take k).all fun b => okc b.toNat) = true)) (fun i => l.length - (intOf i).toNat)
  case atStart => exact ⟨0, by omega, rfl, rfl⟩
  case round =>
    obtain ⟨k, hk, rfl, ha⟩ := hrel
    by_cases hlt : k < l.length
    · obtain ⟨x, hx⟩ : ∃ x, l[k]? = some x := ⟨_, List.getElem?_eq_getElem hlt⟩
      have hix := HAT.out k x hx
      have hxl := x.toNat_lt
      have HS := Lib.hid (all_stop (l := l) (k := k) (x := x) hx)
      have HST := Lib.hid (fun ho => all_step (l := l) (k := k) (x := x) hx ha.out ho)
      have HO : Hid (okc x.toNat = okc x.toNat) := rfl
      generalize hc : x.toNat = c at hix HS HST HO
      have hc256 : c < 256 := by omega
      clear hc hx hxl HAT ha
      by_cases q0 : c ≤ 44
      · have ho : okc c = false := by unfold okc; simp; omega
        have E0 : decide ((c : Int) < 97) = true := decide_eq_true (by omega)
        have E1 : decide ((122 : Int) < (c : Int)) = false := decide_eq_false (by omega)
        have E2 : decide ((c : Int) < 48) = true := decide_eq_true (by omega)
        have E3 : decide ((57 : Int) < (c : Int)) = false := decide_eq_false (by omega)
        have N0 : ((c : Int) != 46) = true := by simp; omega
        have N1 : ((c : Int) != 45) = true := by simp; omega
        have N2 : ((c : Int) != 95) = true := by simp; omega
        have hr := HR.out
        rw [HS.out ho] at hr
        clear HS HST HO HR ho
        subst hr
        go_wp2
        go_ret
        exact ⟨rfl, rfl⟩
      by_cases q1 : c = 45
      · have ho : okc c = true := by unfold okc; simp; omega
        have E0 : decide ((c : Int) < 97) = true := decide_eq_true (by omega)
        have E1 : decide ((122 : Int) < (c : Int)) = false := decide_eq_false (by omega)
        have E2 : decide ((c : Int) < 48) = true := decide_eq_true (by omega)
        have E3 : decide ((57 : Int) < (c : Int)) = false := decide_eq_false (by omega)
        have N0 : ((c : Int) != 46) = true := by simp; omega
        have N1 : ((c : Int) != 45) = false := by simp; omega
        have N2 : ((c : Int) != 95) = true := by simp; omega
        have HT := Lib.hid (HST.out ho)
        clear HS HST HO HR ho
        go_wp2
        go_round
        case rel => exact ⟨k + 1, by omega, by go_num, HT⟩
        case measure => simp [intOf]; omega
      by_cases q2 : c = 46
      · have ho : okc c = true := by unfold okc; simp; omega
        have E0 : decide ((c : Int) < 97) = true := decide_eq_true (by omega)
        have E1 : decide ((122 : Int) < (c : Int)) = false := decide_eq_false (by omega)
        have E2 : decide ((c : Int) < 48) = true := decide_eq_true (by omega)
        have E3 : decide ((57 : Int) < (c : Int)) = false := decide_eq_false (by omega)
        have N0 : ((c : Int) != 46) = false := by simp; omega
        have N1 : ((c : Int) != 45) = true := by simp; omega
        have N2 : ((c : Int) != 95) = true := by simp; omega
        have HT := Lib.hid (HST.out ho)
        clear HS HST HO HR ho
        go_wp2
        go_round
        case rel => exact ⟨k + 1, by omega, by go_num, HT⟩
        case measure => simp [intOf]; omega
      by_cases q3 : c = 47
      · have ho : okc c = false := by unfold okc; simp; omega
        have E0 : decide ((c : Int) < 97) = true := decide_eq_true (by omega)
        have E1 : decide ((122 : Int) < (c : Int)) = false := decide_eq_false (by omega)
        have E2 : decide ((c : Int) < 48) = true := decide_eq_true (by omega)
        have E3 : decide ((57 : Int) < (c : Int)) = false := decide_eq_false (by omega)
        have N0 : ((c : Int) != 46) = true := by simp; omega
        have N1 : ((c : Int) != 45) = true := by simp; omega
        have N2 : ((c : Int) != 95) = true := by simp; omega
        have hr := HR.out
        rw [HS.out ho] at hr
        clear HS HST HO HR ho
        subst hr
        go_wp2
        go_ret
        exact ⟨rfl, rfl⟩
      by_cases q4 : c ≤ 57
      · have ho : okc c = true := by unfold okc; simp; omega
        have E0 : decide ((c : Int) < 97) = true := decide_eq_true (by omega)
        have E1 : decide ((122 : Int) < (c : Int)) = false := decide_eq_false (by omega)
        have E2 : decide ((c : Int) < 48) = false := decide_eq_false (by omega)
        have E3 : decide ((57 : Int) < (c : Int)) = false := decide_eq_false (by omega)
        have N0 : ((c : Int) != 46) = true := by simp; omega
        have N1 : ((c : Int) != 45) = true := by simp; omega
        have N2 : ((c : Int) != 95) = true := by simp; omega
        have HT := Lib.hid (HST.out ho)
        clear HS HST HO HR ho
        go_wp2
        go_round
        case rel => exact ⟨k + 1, by omega, by go_num, HT⟩
        case measure => simp [intOf]; omega
      by_cases q5 : c ≤ 94
      · have ho : okc c = false := by unfold okc; simp; omega
        have E0 : decide ((c : Int) < 97) = true := decide_eq_true (by omega)
        have E1 : decide ((122 : Int) < (c : Int)) = false := decide_eq_false (by omega)
        have E2 : decide ((c : Int) < 48) = false := decide_eq_false (by omega)
        have E3 : decide ((57 : Int) < (c : Int)) = true := decide_eq_true (by omega)
        have N0 : ((c : Int) != 46) = true := by simp; omega
        have N1 : ((c : Int) != 45) = true := by simp; omega
        have N2 : ((c : Int) != 95) = true := by simp; omega
        have hr := HR.out
        rw [HS.out ho] at hr
        clear HS HST HO HR ho
        subst hr
        go_wp2
        go_ret
        exact ⟨rfl, rfl⟩
      by_cases q6 : c = 95
      · have ho : okc c = true := by unfold okc; simp; omega
        have E0 : decide ((c : Int) < 97) = true := decide_eq_true (by omega)
        have E1 : decide ((122 : Int) < (c : Int)) = false := decide_eq_false (by omega)
        have E2 : decide ((c : Int) < 48) = false := decide_eq_false (by omega)
        have E3 : decide ((57 : Int) < (c : Int)) = true := decide_eq_true (by omega)
        have N0 : ((c : Int) != 46) = true := by simp; omega
        have N1 : ((c : Int) != 45) = true := by simp; omega
        have N2 : ((c : Int) != 95) = false := by simp; omega
        have HT := Lib.hid (HST.out ho)
        clear HS HST HO HR ho
        go_wp2
        go_round
        case rel => exact ⟨k + 1, by omega, by go_num, HT⟩
        case measure => simp [intOf]; omega
      by_cases q7 : c = 96
      · have ho : okc c = false := by unfold okc; simp; omega
        have E0 : decide ((c : Int) < 97) = true := decide_eq_true (by omega)
        have E1 : decide ((122 : Int) < (c : Int)) = false := decide_eq_false (by omega)
        have E2 : decide ((c : Int) < 48) = false := decide_eq_false (by omega)
        have E3 : decide ((57 : Int) < (c : Int)) = true := decide_eq_true (by omega)
        have N0 : ((c : Int) != 46) = true := by simp; omega
        have N1 : ((c : Int) != 45) = true := by simp; omega
        have N2 : ((c : Int) != 95) = true := by simp; omega
        have hr := HR.out
        rw [HS.out ho] at hr
        clear HS HST HO HR ho
        subst hr
        go_wp2
        go_ret
        exact ⟨rfl, rfl⟩
      by_cases q8 : c ≤ 122
      · have ho : okc c = true := by unfold okc; simp; omega
        have E0 : decide ((c : Int) < 97) = false := decide_eq_false (by omega)
        have E1 : decide ((122 : Int) < (c : Int)) = false := decide_eq_false (by omega)
        have E2 : decide ((c : Int) < 48) = false := decide_eq_false (by omega)
        have E3 : decide ((57 : Int) < (c : Int)) = true := decide_eq_true (by omega)
        have N0 : ((c : Int) != 46) = true := by simp; omega
        have N1 : ((c : Int) != 45) = true := by simp; omega
        have N2 : ((c : Int) != 95) = true := by simp; omega
        have HT := Lib.hid (HST.out ho)
        clear HS HST HO HR ho
        go_wp2
        go_round
        case rel => exact ⟨k + 1, by omega, by go_num, HT⟩
        case measure => simp [intOf]; omega
      have ho : okc c = false := by unfold okc; simp; omega
      have E0 : decide ((c : Int) < 97) = false := decide_eq_false (by omega)
      have E1 : decide ((122 : Int) < (c : Int)) = true := decide_eq_true (by omega)
      have E2 : decide ((c : Int) < 48) = false := decide_eq_false (by omega)
      have E3 : decide ((57 : Int) < (c : Int)) = true := decide_eq_true (by omega)
      have N0 : ((c : Int) != 46) = true := by simp; omega
      have N1 : ((c : Int) != 45) = true := by simp; omega
      have N2 : ((c : Int) != 95) = true := by simp; omega
      have hr := HR.out
      rw [HS.out ho] at hr
      clear HS HST HO HR ho
      subst hr
      go_wp2
      go_ret
      exact ⟨rfl, rfl⟩
    · have hkl : k = l.length := by omega
      subst hkl
      have hr := HR.out
      have ha' := ha.out
      rw [List.take_length] at ha'
      unfold nameS at hr
      rw [ha', Bool.and_true] at hr
      have e1 : decide ((1 : Int) ≤ (l.length : Int)) = decide (1 ≤ l.length) := decide_eq_decide.2 (by omega)
      have e2 : decide ((l.length : Int) ≤ 16) = decide (l.length ≤ 16) := decide_eq_decide.2 (by omega)
      clear ha ha' HAT HR
      cases g1 : decide (1 ≤ l.length) with
      | false =>
        rw [g1] at e1 hr
        simp only [Bool.false_and] at hr
        subst hr
        clear g1 e2
        go_wp2
        go_ret
        exact ⟨rfl, rfl⟩
      | true =>
        rw [g1] at e1 hr
        simp only [Bool.true_and] at hr
        rw [← e2] at hr
        clear g1 e2
        subst hr
        go_wp2
        go_ret
        exact ⟨rfl, rfl⟩
end
end Go.Proofs.Ytdkmjdcddldjgaa
