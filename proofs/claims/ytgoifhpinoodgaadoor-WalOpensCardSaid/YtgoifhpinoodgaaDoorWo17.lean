/-
  Step: append onto a row of the call's own, as one step of a region that draws its order: over any program. No condition.
  Args: Arguments opened: a []byte that came in reads as bytes. No condition.
  CmV: Lists of texts of a call's own: what they read as, and append onto them. No condition.
-/
import Derived.Test.YtgoifhpinoodgaaDoorWo00
import Derived.Deep.RegionLaw
import Derived.Test.YtgoifhpinoodgaaDoorProg
import Derived.ProofKit
import Derived.OpenShut
import Derived.Lib.SmallJoins
import Derived.Deep.Slices
import Derived.Test.YtgoifhpinoodgaaDoorWo04
import Derived.Test.YtgoifhpinoodgaaDoorWo02
import Derived.WalkKit

section
namespace Go.Proofs.YtgoifhpinoodgaaDoor
open Go.RowKit
set_option linter.unusedVariables false

theorem step_grow {P : Program} {ops : Array Oper} {o : Oper} {a : Act} {w : World} {K : Act → World → Prop} {Q : Exit → Act → World → Prop} {E : Prop}
    (hg : o.guard = none) (s x : Operand) (t : TypeId) (hop : o.op = Op.call { callee := Callee.builtin Builtin.append, args := #[s, x], argTypes := #[t, t] })
    (base : Nat) (e : TypeId) (i : TypeInfo) (ht : P.underlying t = some (.slice e)) (hi : P.info? e = some i) (hz : i.zero = some (.int .u8 0))
    (hsize : i.size = 1) (hby : i.bytes = 1) (v : Value) (xs : List UInt8) (hs : a.eval s = v) (hown : w.ownsRow base e 1 v xs.length (xs.map bv))
    (S : Nat → Prop) (xv : Value) (ys : List UInt8) (hxe : a.eval x = xv) (hx : BS w S xv ys) (hb : xs.length + ys.length ≤ 140737488355328) (hbase : base ≤ w.heap.size)
    (hK : ∀ v' w', w'.ownsRow base e 1 v' (xs ++ ys).length ((xs ++ ys).map bv) → w.grownBy w' v.ownBlock → (v'.ownBlock = v.ownBlock ∨ v'.ownBlock = some w.heap.size) → K (a.put o.dst v') w') :
    if Region.wanted o (yielded ops a.tmps) = true then Oper.wp P o a w K Q else E := by
  have hw : Region.wanted o (yielded ops a.tmps) = true := by simp [Region.wanted, hg]
  rw [if_pos hw]
  obtain ⟨v', w', hrun, h2, h3, h4⟩ := run_grow (P := P) w base t o.type e i ht hi hz hsize hby v xs hown S xv ys hx hb hbase
  unfold Oper.wp execOp
  simp only [hop, resolve, invoke, builtin, Sem.run_bind, Sem.run_pure, Result.andThen_ok, List.map_toArray, List.map_cons, List.map_nil, hs, hxe, hrun]
  exact hK _ _ h2 h3 h4
theorem own_ne {w : World} {B e size n g : Nat} {v : Value} {xs : List Value} (h : w.ownsRow B e size v n xs) (hg : g < B) : v.ownBlock ≠ some g := by
  obtain ⟨_, h2⟩ := h
  rcases h2 with ⟨rfl, _⟩ | ⟨g', c, cur, rfl, hb, _⟩
  · simp [Value.ownBlock]
  · simp [Value.ownBlock]; omega

theorem own_ge {w : World} {B e size n : Nat} {v : Value} {xs : List Value} (h : w.ownsRow B e size v n xs) (k : Nat) (hk : v.ownBlock = some k) : B ≤ k := by
  rcases Nat.lt_or_ge k B with hlt | hge
  · exact absurd hk (own_ne h hlt)
  · exact hge

end Go.Proofs.YtgoifhpinoodgaaDoor
end

section
namespace Go.Proofs.YtgoifhpinoodgaaDoor
open Go.RowKit Go.ChangeShapes Go.WideShapes Go.Joins
set_option maxRecDepth 100000

theorem cells_byte : Tryd.prog.cellsOf 5 = 1 := by kernel_rfl

def byteOf (z : Int) : UInt8 := UInt8.ofNat z.toNat
theorem byteOf_nat {z : Int} (h : (Lit.int .u8 z).wf = true) : ((byteOf z).toNat : Int) = z := by
  have hx : 0 ≤ z ∧ z ≤ 255 := by simpa [Lit.wf, IntKind.min, IntKind.max, IntKind.signed, IntKind.bits] using h
  unfold byteOf
  have : (UInt8.ofNat z.toNat).toNat = z.toNat % 256 := by simp
  rw [this]
  omega

theorem BS_of_trod {H : Type} {enc : TypeId × Value → H} {W : World} {fuel : Nat} {v : Value} {x : DataW H × List MemPlace}
    (h : DataW.trod enc Tryd.prog W 0 (fun _ => true) true fuel 34 [v] = some x) : ∃ l, BS W (fun _ => True) v l := by
  rcases open_ints Tryd.underlying34 Tryd.underlying5 cells_byte h with ⟨hcs, _⟩ | ⟨a, len, cap, zs, hcs, _, hl, hm, hz, _, hcell, hwz⟩
  · simp at hcs
    subst hcs
    exact ⟨[], BS.nil _ _⟩
  · simp at hcs
    subst hcs
    simp only [if_true] at hz
    have hlen : ((zs.take len).map byteOf).length = len := by simp; omega
    refine ⟨(zs.take len).map byteOf, some a, cap, by rw [hlen], by omega, hm, (fun h => by cases h), fun h0 => ?_⟩
    rw [hlen] at h0
    obtain ⟨b, o, rfl, hc⟩ := ints_at hcell (by omega)
    refine ⟨b, o, rfl, trivial, World.block_lt_of_cell? _ _ (hc 0 (by omega)), fun j u hu => ?_⟩
    have hj : j < len := by
      have := (List.getElem?_eq_some_iff.1 hu).1
      omega
    rw [hc j (by omega)]
    have hjz : j < zs.length := by omega
    simp [hj, List.getElem?_eq_getElem hjz] at hu
    subst hu
    unfold bv
    rw [byteOf_nat (hwz _ (List.getElem_mem hjz))]
    simp [List.getD, List.getElem?_eq_getElem hjz]

theorem BS_of_arg {H : Type} {enc : TypeId × Value → H} {W : World} {base : Nat} {v : Value} {d : DataW H} {p : List MemPlace}
    (ok : Value.okWide Tryd.prog W .any base 34 v) (h : DataW.Trod enc Tryd.prog W 0 (fun _ => true) true 34 v d p) : ∃ l, BS W (fun _ => True) v l := by
  obtain ⟨a0, len, cap, rfl⟩ := okWide_slice Tryd.underlying34 ok
  obtain ⟨fuel, hf⟩ := h
  exact BS_of_trod (x := _) hf

theorem cells_bytes : Tryd.prog.cellsOf 34 = 1 := by kernel_rfl

theorem LS_of_trod {H : Type} {enc : TypeId × Value → H} {W : World} {fuel : Nat} {v : Value} {x : DataW H × List MemPlace}
    (h : DataW.trod enc Tryd.prog W 0 (fun _ => true) true fuel 33 [v] = some x) : ∃ ls, LS W (fun b => b < W.heap.size) v ls := by
  rcases Deep.open_slice1 Tryd.underlying33 cells_bytes h with ⟨hcs, _⟩ | ⟨a, len, cap, m, n, V, D, Pl, hcs, _, hl, hm, hmm, _, hi⟩
  · simp at hcs
    subst hcs
    exact ⟨[], none, 0, rfl, by simp, by simp [maxLen], fun h0 => absurd h0 (by simp)⟩
  · simp at hcs
    subst hcs
    simp only [if_true] at hmm
    obtain ⟨f, hf⟩ := Deep.choose_lt (α := List UInt8) (n := m) (p := fun i l => BS W (fun _ => True) (V i) l) (fun i him => BS_of_trod (hi i him).2)
    have hlen : ((List.range len).map f).length = len := by simp
    refine ⟨(List.range len).map f, some a, cap, by rw [hlen], by omega, hm, fun h0 => ?_⟩
    rw [hlen] at h0
    obtain ⟨b, o, spot⟩ := a
    have hspot : spot = none := by simpa [Addr.add] using World.cell?_spot (hi 0 (by omega)).1
    subst hspot
    have hc0 := (hi 0 (by omega)).1
    rw [add_plain] at hc0
    refine ⟨b, o, rfl, World.block_lt_of_cell? _ _ hc0, World.block_lt_of_cell? _ _ hc0, fun j l hj => ?_⟩
    have hjl : j < len := by
      have := (List.getElem?_eq_some_iff.1 hj).1
      omega
    have hc := (hi j (by omega)).1
    rw [add_plain] at hc
    refine ⟨V j, hc, ?_⟩
    simp [hjl] at hj
    subst hj
    exact (hf j (by omega)).lt.mono fun _ h => h.2

end Go.Proofs.YtgoifhpinoodgaaDoor
end

section
namespace Go.Proofs.YtgoifhpinoodgaaDoor
open Go.RowKit Go.Joins
set_option linter.unusedVariables false

theorem info_slice : (Tryd.prog.info? 34).map (fun i => (i.zero, i.size, i.bytes)) = some (some (.slice none 0 0), 1, 24) := by kernel_rfl

/-- The values read, in w, as the texts ls. -/
def VS (w : World) (S : Nat → Prop) (vs : List Value) (ls : List (List UInt8)) : Prop :=
  vs.length = ls.length ∧ ∀ (i : Nat) (v : Value) (l : List UInt8), vs[i]? = some v → ls[i]? = some l → BS w S v l

section
variable {w w' : World} {S S' : Nat → Prop} {vs us : List Value} {ls ms : List (List UInt8)}
theorem VS.below' (h : VS w S vs ls) (hb : Below w.heap.size w w') : VS w' S vs ls := ⟨h.1, fun i v l hv hl => (h.2 i v l hv hl).below' hb⟩
theorem VS.mono (h : VS w S vs ls) (hS : ∀ b, S b → S' b) : VS w S' vs ls := ⟨h.1, fun i v l hv hl => (h.2 i v l hv hl).mono hS⟩
theorem VS.lt (h : VS w S vs ls) : VS w (fun b => S b ∧ b < w.heap.size) vs ls := ⟨h.1, fun i v l hv hl => (h.2 i v l hv hl).lt⟩
theorem VS.keep (h : VS w S vs ls) (hs : w.heap.size ≤ w'.heap.size) (hk : ∀ b, S b → b < w.heap.size → w'.heap[b]? = w.heap[b]?) : VS w' S vs ls :=
  ⟨h.1, fun i v l hv hl => (h.2 i v l hv hl).keep hs hk⟩
theorem VS.append (h : VS w S vs ls) (g : VS w S us ms) : VS w S (vs ++ us) (ls ++ ms) := by
  refine ⟨by rw [List.length_append, List.length_append, h.1, g.1], fun i v l hv hl => ?_⟩
  rcases Nat.lt_or_ge i vs.length with hi | hi
  · rw [List.getElem?_append_left hi] at hv
    rw [List.getElem?_append_left (by rw [← h.1]; exact hi)] at hl
    exact h.2 i v l hv hl
  · rw [List.getElem?_append_right hi] at hv
    rw [List.getElem?_append_right (by rw [← h.1]; exact hi), ← h.1] at hl
    exact g.2 _ v l hv hl
theorem VS.one {v : Value} {l : List UInt8} (h : BS w S v l) : VS w S [v] [l] := by
  refine ⟨rfl, fun i u m hu hm => ?_⟩
  match i, hu, hm with
  | 0, hu, hm => simp at hu hm; subst hu hm; exact h
theorem VS.cells1 (h : VS w S vs ls) : ∀ u ∈ vs, u.oneCell' = true := by
  intro u hu
  obtain ⟨i, hi, e⟩ := List.mem_iff_getElem.1 hu
  have h1 : vs[i]? = some u := by rw [List.getElem?_eq_getElem hi, e]
  have h2 : ls[i]? = some (ls[i]'(by rw [← h.1]; exact hi)) := List.getElem?_eq_getElem _
  obtain ⟨A, c, rfl, _⟩ := (h.2 i u _ h1 h2).form
  rfl
end

/-- A list of texts in memory, by its cells. -/
theorem LS.cells {w : World} {S : Nat → Prop} {v : Value} {ls : List (List UInt8)} (h : LS w S v ls) (hp : 0 < ls.length) :
    ∃ (ad : Addr) (c : Nat) (vs : List Value), v = .slice (some ad) vs.length c ∧ VS w S vs ls ∧ ∀ j u, vs[j]? = some u → w.cell? (ad.add j) = some u := by
  obtain ⟨A, c, e, hl, hc, hx⟩ := h
  obtain ⟨b, o, rfl, sb, hb, hx⟩ := hx hp
  have hx2 : ∀ i, i < ls.length → ∃ q : Value, w.cell? ⟨b, o + i, none⟩ = some q ∧ ∀ t, ls[i]? = some t → BS w S q t := by
    intro i hi
    obtain ⟨x, k, hb⟩ := hx i ls[i] (List.getElem?_eq_getElem hi)
    refine ⟨x, k, fun t h => ?_⟩
    rw [List.getElem?_eq_getElem hi] at h
    obtain rfl := Option.some.inj h
    exact hb
  haveI : Inhabited Value := ⟨.int .i64 0⟩
  obtain ⟨g, hg⟩ := Deep.choose_lt (α := Value) hx2
  have hlen : ((List.range ls.length).map g).length = ls.length := by simp
  refine ⟨⟨b, o, none⟩, c, (List.range ls.length).map g, by rw [hlen]; exact e, ⟨hlen, fun i q t hq ht => ?_⟩, fun j u hu => ?_⟩
  · have hil : i < ls.length := (List.getElem?_eq_some_iff.1 ht).1
    simp [hil] at hq
    subst hq
    exact (hg i hil).2 t ht
  · have hj := (List.getElem?_eq_some_iff.1 hu).1
    rw [hlen] at hj
    rw [Addr.add_lit]
    simp [hj] at hu
    subst hu
    exact (hg j hj).1

/-- A row of slices of a call's own reads as a list of texts. -/
theorem LS_of_own {w : World} {S : Nat → Prop} {base : Nat} {v : Value} {vs : List Value} {ls : List (List UInt8)} (h : w.ownsRow base 34 1 v vs.length vs) (hq : VS w S vs ls)
    (hS : ∀ b, base ≤ b → b < w.heap.size → S b) : LS w S v ls := by
  obtain ⟨_, h2⟩ := h
  rw [hq.1] at h2
  rcases h2 with ⟨rfl, h0⟩ | ⟨g, cap, cur, rfl, hb, hg, hnc, hcm, hcs, htk⟩
  · obtain rfl : ls = [] := List.eq_nil_of_length_eq_zero h0
    exact LS.nil _ _
  · have hlt : g < w.heap.size := (Array.getElem?_eq_some_iff.1 hg).1
    refine ⟨_, cap, rfl, hnc, hcm, fun h0 => ⟨g, 0, rfl, hS g hb hlt, hlt, fun i t hi => ?_⟩⟩
    have hil := (List.getElem?_eq_some_iff.1 hi).1
    obtain ⟨u, hqi⟩ : ∃ u, vs[i]? = some u := ⟨_, List.getElem?_eq_getElem (by rw [hq.1]; exact hil)⟩
    refine ⟨u, ?_, hq.2 i _ t hqi hi⟩
    rw [cell_of_row w g (0 + i) cur _ (0, 0) hg, Nat.zero_add]
    have := congrArg (fun l => l[i]?) htk
    simp only [List.getElem?_take] at this
    rw [if_pos (by omega), hqi] at this
    simpa using this

theorem run_growL (w : World) (base : Nat) (v : Value) (vs : List Value) (hown : w.ownsRow base 34 1 v vs.length vs) (ad : Addr) (c : Nat) (us : List Value) (hx : ∀ j u, us[j]? = some u → w.cell? (ad.add j) = some u)
    (h1 : ∀ u ∈ us, u.oneCell' = true) (hb : vs.length + us.length ≤ 1000000000) (hbase : base ≤ w.heap.size) (ty : TypeId) :
    ∃ v' w', (Builtin.append_ #[33, 33] ty #[v, .slice (some ad) us.length c]).run Tryd.prog w = .ok v' w' ∧ w'.ownsRow base 34 1 v' (vs ++ us).length (vs ++ us) ∧ w.grownBy w' v.ownBlock ∧
      (v'.ownBlock = v.ownBlock ∨ v'.ownBlock = some w.heap.size) := by
  obtain ⟨i0, hi, hz0, hz1, hz2⟩ := info_parts info_slice
  obtain ⟨v', w', a1, a2, a3, _, a5⟩ := run_append_own_at (P := Tryd.prog) (w := w) base 33 ty 34 i0 _ 1 24 Tryd.underlying33 hi hz0 hz1 hz2 rfl (by omega) v vs.length _ hown ad us.length c us (by simp) hx h1
    (by unfold maxLen; omega) (by omega) hbase
  exact ⟨v', w', a1, by rw [List.length_append]; exact a2, a3, a5⟩

theorem wpList_growL (w : World) {ops : Array Oper} {rest : List Oper} {o : Oper} {a : Act} {Q : Exit → Act → World → Prop} (hgd : o.guard = none) (s x : Operand)
    (ho : o.op = .call { callee := .builtin .append, args := #[s, x], argTypes := #[33, 33] })
    (base : Nat) (v : Value) (vs : List Value) (hs : a.eval s = v) (hown : w.ownsRow base 34 1 v vs.length vs)
    (ad : Addr) (c n : Nat) (us : List Value) (hxe : a.eval x = .slice (some ad) n c) (hn : n = us.length) (hx : ∀ j u, us[j]? = some u → w.cell? (ad.add j) = some u)
    (h1 : ∀ u ∈ us, u.oneCell' = true) (hb : vs.length + us.length ≤ 1000000000) (hbase : base ≤ w.heap.size)
    (h : ∀ v' w', w'.ownsRow base 34 1 v' (vs ++ us).length (vs ++ us) → w.grownBy w' v.ownBlock → (v'.ownBlock = v.ownBlock ∨ v'.ownBlock = some w.heap.size) → wpList Tryd.prog ops Q rest (a.put o.dst v') w') :
    wpList Tryd.prog ops Q (o :: rest) a w := by
  subst hn
  refine wpList_plain hgd fun K hK => ?_
  obtain ⟨v', w', hrun, h2, h3, h4⟩ := run_growL w base v vs hown ad c us hx h1 hb hbase o.type
  unfold Oper.wp execOp
  simp only [ho, resolve, invoke, builtin, Sem.run_bind, Sem.run_pure, Result.andThen_ok, List.map_toArray, List.map_cons, List.map_nil, hs, hxe, hrun]
  exact hK _ _ (h v' w' h2 h3 h4)

/-- A row of bytes that fills a block, taken as a slice. -/
theorem KB.bs {w : World} {g : Nat} {t : TypeId} {l : List UInt8} {n : Nat} (h : KB w g t (l.map bv).toArray) (hn : l.length = n) (hm : n ≤ maxLen) : BS w (fun b => b = g) (.slice (some ⟨g, 0, none⟩) n n) l := by
  subst hn
  refine ⟨_, _, rfl, Nat.le_refl _, hm, (fun h => by cases h), fun _ => ⟨g, 0, rfl, rfl, h.lt, fun j u hu => ?_⟩⟩
  rw [Nat.zero_add, h.cell]
  simp [hu]

/-- A whole array is read out of the block that it fills: as a step of a region. -/
theorem step_load_kbw {P : Program} {ops : Array Oper} {o : Oper} {a : Act} {w : World} {K : Act → World → Prop} {Q : Exit → Act → World → Prop} {E : Prop}
    (hw : Region.wanted o (yielded ops a.tmps) = true) (ty : TypeId) (x : Operand) (ho : o.op = .load ty x) (g : Nat) (hx : a.eval x = .pointer (some ⟨g, 0, none⟩)) (t : TypeId) (cs : List Value) (h : KB w g t cs.toArray)
    (d : TypeDesc) (hu : P.underlying ty = some d) (hd : d.isRow = true) (n : Nat) (hi : (P.info? ty).map (·.size) = some n) (hn : cs.length = n)
    (k : K (a.put o.dst (.agg cs.toArray)) w) : if Region.wanted o (yielded ops a.tmps) = true then Oper.wp P o a w K Q else E := by
  rw [if_pos hw]
  exact wp_load_mid ty x ho g 0 hx cs d h.range hu hd (by rw [hi, hn]) k

/-- A whole array is read out of the block that it fills: as a step of a region. -/
theorem step_load_kb {P : Program} {ops : Array Oper} {o : Oper} {a : Act} {w : World} {K : Act → World → Prop} {Q : Exit → Act → World → Prop} {E : Prop}
    (hg : o.guard = none) (ty : TypeId) (x : Operand) (ho : o.op = .load ty x) (g : Nat) (hx : a.eval x = .pointer (some ⟨g, 0, none⟩)) (t : TypeId) (cs : List Value) (h : KB w g t cs.toArray)
    (d : TypeDesc) (hu : P.underlying ty = some d) (hd : d.isRow = true) (n : Nat) (hi : (P.info? ty).map (·.size) = some n) (hn : cs.length = n)
    (k : K (a.put o.dst (.agg cs.toArray)) w) : if Region.wanted o (yielded ops a.tmps) = true then Oper.wp P o a w K Q else E := by
  exact step_load_kbw (by simp [Region.wanted, hg]) ty x ho g hx t cs h d hu hd n hi hn k

/-- A whole array is written over the block that it fills: as a step of a region. -/
theorem step_store_kb {P : Program} {ops : Array Oper} {o : Oper} {a : Act} {w : World} {K : Act → World → Prop} {Q : Exit → Act → World → Prop} {E : Prop}
    (hg : o.guard = none) (ty : TypeId) (x y : Operand) (ho : o.op = .store ty x y) (g : Nat) (vs : List Value) (hx : a.eval x = .pointer (some ⟨g, 0, none⟩)) (hy : a.eval y = .agg vs.toArray)
    (t : TypeId) (cs : List Value) (h : KB w g t cs.toArray) (n : Nat) (hi : (P.info? ty).map (·.size) = some n) (hn : cs.length = n) (hv : vs.length = n) (h1 : ∀ v ∈ vs, v.oneCell' = true)
    (k : ∀ w', KB w' g t vs.toArray → w.grownBy w' (some g) → K (a.put o.dst undef) w') : if Region.wanted o (yielded ops a.tmps) = true then Oper.wp P o a w K Q else E := by
  have hw : Region.wanted o (yielded ops a.tmps) = true := by simp [Region.wanted, hg]
  rw [if_pos hw]
  refine wp_store_mid ty x y ho g 0 vs.toArray hx hy (h.there 0 _ (by simp; omega)) (by simp [hi, hv]) (all_oneCell_toArray h1) ?_
  have := KB.setCells vs 0 w cs h (by omega)
  rw [splice_all _ _ (by omega)] at this
  exact k _ this (grown_cells w g _ _ _)
end Go.Proofs.YtgoifhpinoodgaaDoor
end
