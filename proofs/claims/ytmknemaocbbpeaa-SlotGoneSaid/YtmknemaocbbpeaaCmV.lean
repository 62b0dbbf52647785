/-
  Lists of texts of a call's own: what they read as, and append onto them. No condition.
-/
import Derived.Test.YtmknemaocbbpeaaStr
import Derived.Test.YtmknemaocbbpeaaRow
import Derived.Test.YtmknemaocbbpeaaStep
import Derived.Test.YtmknemaocbbpeaaArgs
import Derived.WalkKit
namespace Go.Proofs.Ytmknemaocbbpeaa
open Go.RowKit Go.Joins
set_option maxRecDepth 100000
set_option linter.unusedVariables false

theorem info_slice : (Try.prog.info? 36).map (fun i => (i.zero, i.size, i.bytes)) = some (some (.slice none 0 0), 1, 24) := by kernel_rfl

/-- The values read, in w, as the texts ls. -/
def VS (w : World) (S : Nat → Prop) (vs : List Value) (ls : List (List UInt8)) : Prop :=
  vs.length = ls.length ∧ ∀ (i : Nat) (v : Value) (l : List UInt8), vs[i]? = some v → ls[i]? = some l → BS w S v l

section
variable {w w' : World} {S S' : Nat → Prop} {vs us : List Value} {ls ms : List (List UInt8)}
theorem VS.below' (h : VS w S vs ls) (hb : Below w.heap.size w w') : VS w' S vs ls := ⟨h.1, fun i v l hv hl => (h.2 i v l hv hl).below' hb⟩
theorem VS.mono (h : VS w S vs ls) (hS : ∀ b, S b → S' b) : VS w S' vs ls := ⟨h.1, fun i v l hv hl => (h.2 i v l hv hl).mono hS⟩
theorem VS.lt (h : VS w S vs ls) : VS w (fun b => S b ∧ b < w.heap.size) vs ls := ⟨h.1, fun i v l hv hl => (h.2 i v l hv hl).lt⟩
theorem VS.keep (h : VS w S vs ls) (hs : w.heap.size ≤ w'.heap.size) (hk : ∀ b, S b → b < w.heap.size → w'.heap[b]? = w.heap[b]?) : VS w' S vs ls :=
  ⟨h.1, fun i v l hv hl => (h.2 i v l hv hl).keep hs hk⟩
theorem VS.append (h : VS w S vs ls) (g : VS w S us ms) : VS w S (vs ++ us) (ls ++ ms) := by
  refine ⟨by rw [List.length_append, List.length_append, h.1, g.1], fun i v l hv hl => ?_⟩
  rcases Nat.lt_or_ge i vs.length with hi | hi
  · rw [List.getElem?_append_left hi] at hv
    rw [List.getElem?_append_left (by rw [← h.1]; exact hi)] at hl
    exact h.2 i v l hv hl
  · rw [List.getElem?_append_right hi] at hv
    rw [List.getElem?_append_right (by rw [← h.1]; exact hi), ← h.1] at hl
    exact g.2 _ v l hv hl
theorem VS.one {v : Value} {l : List UInt8} (h : BS w S v l) : VS w S [v] [l] := by
  refine ⟨rfl, fun i u m hu hm => ?_⟩
  match i, hu, hm with
  | 0, hu, hm => simp at hu hm; subst hu hm; exact h
theorem VS.cells1 (h : VS w S vs ls) : ∀ u ∈ vs, u.oneCell' = true := by
  intro u hu
  obtain ⟨i, hi, e⟩ := List.mem_iff_getElem.1 hu
  have h1 : vs[i]? = some u := by rw [List.getElem?_eq_getElem hi, e]
  have h2 : ls[i]? = some (ls[i]'(by rw [← h.1]; exact hi)) := List.getElem?_eq_getElem _
  obtain ⟨A, c, rfl, _⟩ := (h.2 i u _ h1 h2).form
  rfl
end

/-- A list of texts in memory, by its cells. -/
theorem LS.cells {w : World} {S : Nat → Prop} {v : Value} {ls : List (List UInt8)} (h : LS w S v ls) (hp : 0 < ls.length) :
    ∃ (ad : Addr) (c : Nat) (vs : List Value), v = .slice (some ad) vs.length c ∧ VS w S vs ls ∧ ∀ j u, vs[j]? = some u → w.cell? (ad.add j) = some u := by
  obtain ⟨A, c, e, hl, hc, hx⟩ := h
  obtain ⟨b, o, rfl, sb, hb, hx⟩ := hx hp
  have hx2 : ∀ i, i < ls.length → ∃ q : Value, w.cell? ⟨b, o + i, none⟩ = some q ∧ ∀ t, ls[i]? = some t → BS w S q t := by
    intro i hi
    obtain ⟨x, k, hb⟩ := hx i ls[i] (List.getElem?_eq_getElem hi)
    refine ⟨x, k, fun t h => ?_⟩
    rw [List.getElem?_eq_getElem hi] at h
    obtain rfl := Option.some.inj h
    exact hb
  haveI : Inhabited Value := ⟨.int .i64 0⟩
  obtain ⟨g, hg⟩ := Deep.choose_lt (α := Value) hx2
  have hlen : ((List.range ls.length).map g).length = ls.length := by simp
  refine ⟨⟨b, o, none⟩, c, (List.range ls.length).map g, by rw [hlen]; exact e, ⟨hlen, fun i q t hq ht => ?_⟩, fun j u hu => ?_⟩
  · have hil : i < ls.length := (List.getElem?_eq_some_iff.1 ht).1
    simp [hil] at hq
    subst hq
    exact (hg i hil).2 t ht
  · have hj := (List.getElem?_eq_some_iff.1 hu).1
    rw [hlen] at hj
    rw [Addr.add_lit]
    simp [hj] at hu
    subst hu
    exact (hg j hj).1

/-- A row of slices of a call's own reads as a list of texts. -/
theorem LS_of_own {w : World} {S : Nat → Prop} {base : Nat} {v : Value} {vs : List Value} {ls : List (List UInt8)} (h : w.ownsRow base 36 1 v vs.length vs) (hq : VS w S vs ls)
    (hS : ∀ b, base ≤ b → b < w.heap.size → S b) : LS w S v ls := by
  obtain ⟨_, h2⟩ := h
  rw [hq.1] at h2
  rcases h2 with ⟨rfl, h0⟩ | ⟨g, cap, cur, rfl, hb, hg, hnc, hcm, hcs, htk⟩
  · obtain rfl : ls = [] := List.eq_nil_of_length_eq_zero h0
    exact LS.nil _ _
  · have hlt : g < w.heap.size := (Array.getElem?_eq_some_iff.1 hg).1
    refine ⟨_, cap, rfl, hnc, hcm, fun h0 => ⟨g, 0, rfl, hS g hb hlt, hlt, fun i t hi => ?_⟩⟩
    have hil := (List.getElem?_eq_some_iff.1 hi).1
    obtain ⟨u, hqi⟩ : ∃ u, vs[i]? = some u := ⟨_, List.getElem?_eq_getElem (by rw [hq.1]; exact hil)⟩
    refine ⟨u, ?_, hq.2 i _ t hqi hi⟩
    rw [cell_of_row w g (0 + i) cur _ (0, 0) hg, Nat.zero_add]
    have := congrArg (fun l => l[i]?) htk
    simp only [List.getElem?_take] at this
    rw [if_pos (by omega), hqi] at this
    simpa using this

theorem run_growL (w : World) (base : Nat) (v : Value) (vs : List Value) (hown : w.ownsRow base 36 1 v vs.length vs) (ad : Addr) (c : Nat) (us : List Value) (hx : ∀ j u, us[j]? = some u → w.cell? (ad.add j) = some u)
    (h1 : ∀ u ∈ us, u.oneCell' = true) (hb : vs.length + us.length ≤ 1000000000) (hbase : base ≤ w.heap.size) (ty : TypeId) :
    ∃ v' w', (Builtin.append_ #[43, 43] ty #[v, .slice (some ad) us.length c]).run Try.prog w = .ok v' w' ∧ w'.ownsRow base 36 1 v' (vs ++ us).length (vs ++ us) ∧ w.grownBy w' v.ownBlock ∧
      (v'.ownBlock = v.ownBlock ∨ v'.ownBlock = some w.heap.size) := by
  obtain ⟨i0, hi, hz0, hz1, hz2⟩ := info_parts info_slice
  obtain ⟨v', w', a1, a2, a3, _, a5⟩ := run_append_own_at (P := Try.prog) (w := w) base 43 ty 36 i0 _ 1 24 Try.underlying43 hi hz0 hz1 hz2 rfl (by omega) v vs.length _ hown ad us.length c us (by simp) hx h1
    (by unfold maxLen; omega) (by omega) hbase
  exact ⟨v', w', a1, by rw [List.length_append]; exact a2, a3, a5⟩

theorem wpList_growL (w : World) {ops : Array Oper} {rest : List Oper} {o : Oper} {a : Act} {Q : Exit → Act → World → Prop} (hgd : o.guard = none) (s x : Operand)
    (ho : o.op = .call { callee := .builtin .append, args := #[s, x], argTypes := #[43, 43] })
    (base : Nat) (v : Value) (vs : List Value) (hs : a.eval s = v) (hown : w.ownsRow base 36 1 v vs.length vs)
    (ad : Addr) (c n : Nat) (us : List Value) (hxe : a.eval x = .slice (some ad) n c) (hn : n = us.length) (hx : ∀ j u, us[j]? = some u → w.cell? (ad.add j) = some u)
    (h1 : ∀ u ∈ us, u.oneCell' = true) (hb : vs.length + us.length ≤ 1000000000) (hbase : base ≤ w.heap.size)
    (h : ∀ v' w', w'.ownsRow base 36 1 v' (vs ++ us).length (vs ++ us) → w.grownBy w' v.ownBlock → (v'.ownBlock = v.ownBlock ∨ v'.ownBlock = some w.heap.size) → wpList Try.prog ops Q rest (a.put o.dst v') w') :
    wpList Try.prog ops Q (o :: rest) a w := by
  subst hn
  refine wpList_plain hgd fun K hK => ?_
  obtain ⟨v', w', hrun, h2, h3, h4⟩ := run_growL w base v vs hown ad c us hx h1 hb hbase o.type
  unfold Oper.wp execOp
  simp only [ho, resolve, invoke, builtin, Sem.run_bind, Sem.run_pure, Result.andThen_ok, List.map_toArray, List.map_cons, List.map_nil, hs, hxe, hrun]
  exact hK _ _ (h v' w' h2 h3 h4)

/-- A row of bytes that fills a block, taken as a slice. -/
theorem KB.bs {w : World} {g : Nat} {t : TypeId} {l : List UInt8} {n : Nat} (h : KB w g t (l.map bv).toArray) (hn : l.length = n) (hm : n ≤ maxLen) : BS w (fun b => b = g) (.slice (some ⟨g, 0, none⟩) n n) l := by
  subst hn
  refine ⟨_, _, rfl, Nat.le_refl _, hm, (fun h => by cases h), fun _ => ⟨g, 0, rfl, rfl, h.lt, fun j u hu => ?_⟩⟩
  rw [Nat.zero_add, h.cell]
  simp [hu]

/-- A whole array is read out of the block that it fills: as a step of a region. -/
theorem step_load_kbw {P : Program} {ops : Array Oper} {o : Oper} {a : Act} {w : World} {K : Act → World → Prop} {Q : Exit → Act → World → Prop} {E : Prop}
    (hw : Region.wanted o (yielded ops a.tmps) = true) (ty : TypeId) (x : Operand) (ho : o.op = .load ty x) (g : Nat) (hx : a.eval x = .pointer (some ⟨g, 0, none⟩)) (t : TypeId) (cs : List Value) (h : KB w g t cs.toArray)
    (d : TypeDesc) (hu : P.underlying ty = some d) (hd : d.isRow = true) (n : Nat) (hi : (P.info? ty).map (·.size) = some n) (hn : cs.length = n)
    (k : K (a.put o.dst (.agg cs.toArray)) w) : if Region.wanted o (yielded ops a.tmps) = true then Oper.wp P o a w K Q else E := by
  rw [if_pos hw]
  exact wp_load_mid ty x ho g 0 hx cs d h.range hu hd (by rw [hi, hn]) k

/-- A whole array is read out of the block that it fills: as a step of a region. -/
theorem step_load_kb {P : Program} {ops : Array Oper} {o : Oper} {a : Act} {w : World} {K : Act → World → Prop} {Q : Exit → Act → World → Prop} {E : Prop}
    (hg : o.guard = none) (ty : TypeId) (x : Operand) (ho : o.op = .load ty x) (g : Nat) (hx : a.eval x = .pointer (some ⟨g, 0, none⟩)) (t : TypeId) (cs : List Value) (h : KB w g t cs.toArray)
    (d : TypeDesc) (hu : P.underlying ty = some d) (hd : d.isRow = true) (n : Nat) (hi : (P.info? ty).map (·.size) = some n) (hn : cs.length = n)
    (k : K (a.put o.dst (.agg cs.toArray)) w) : if Region.wanted o (yielded ops a.tmps) = true then Oper.wp P o a w K Q else E := by
  exact step_load_kbw (by simp [Region.wanted, hg]) ty x ho g hx t cs h d hu hd n hi hn k

/-- A whole array is written over the block that it fills: as a step of a region. -/
theorem step_store_kb {P : Program} {ops : Array Oper} {o : Oper} {a : Act} {w : World} {K : Act → World → Prop} {Q : Exit → Act → World → Prop} {E : Prop}
    (hg : o.guard = none) (ty : TypeId) (x y : Operand) (ho : o.op = .store ty x y) (g : Nat) (vs : List Value) (hx : a.eval x = .pointer (some ⟨g, 0, none⟩)) (hy : a.eval y = .agg vs.toArray)
    (t : TypeId) (cs : List Value) (h : KB w g t cs.toArray) (n : Nat) (hi : (P.info? ty).map (·.size) = some n) (hn : cs.length = n) (hv : vs.length = n) (h1 : ∀ v ∈ vs, v.oneCell' = true)
    (k : ∀ w', KB w' g t vs.toArray → w.grownBy w' (some g) → K (a.put o.dst undef) w') : if Region.wanted o (yielded ops a.tmps) = true then Oper.wp P o a w K Q else E := by
  have hw : Region.wanted o (yielded ops a.tmps) = true := by simp [Region.wanted, hg]
  rw [if_pos hw]
  refine wp_store_mid ty x y ho g 0 vs.toArray hx hy (h.there 0 _ (by simp; omega)) (by simp [hi, hv]) (all_oneCell_toArray h1) ?_
  have := KB.setCells vs 0 w cs h (by omega)
  rw [splice_all _ _ (by omega)] at this
  exact k _ this (grown_cells w g _ _ _)
end Go.Proofs.Ytmknemaocbbpeaa
