/-
  Txt: Texts (strings) as values: a string of given bytes; its bytes as a slice of the call's own; whether two are the same; a string that came in. General. No condition.
  Step: append onto a row of the call's own, as one step of a region that draws its order: over any program. No condition.
  LxT: Words of a text (tokens) in memory: a slice of them, and append of one, over the loaded program. No condition but sizes.
-/
import Derived.Test.YthindhlogkhclaaDoorPm03
import Derived.Lib.ConvBytes
import Derived.Test.YthindhlogkhclaaDoorMem
import Derived.Deep.RegionLaw
import Derived.Test.YthindhlogkhclaaDoorPm01
set_option linter.unusedVariables false
set_option maxRecDepth 100000
namespace Go.Proofs.YthindhlogkhclaaDoor
section
open Go.RowKit Go.ChangeShapes Go.WideShapes Go.Joins
def strV (l : List UInt8) : Value := .string ⟨l.toArray⟩
theorem cells_str : Tryd.prog.cellsOf 9 = 1 := by kernel_rfl
theorem open_str {H : Type} {enc : TypeId × Value → H} {W : World} {base : Nat} {v : Value} {d : DataW H} {p : List MemPlace}
    (ok : Value.okWide Tryd.prog W .any base 9 v) (h : DataW.Trod enc Tryd.prog W 0 (fun _ => true) true 9 v d p) : ∃ l : List UInt8, v = strV l ∧ l.length ≤ maxLen := by
  obtain ⟨n, hn⟩ := h
  obtain ⟨s, hs⟩ := okWide_string Tryd.underlying9 ok
  subst hs
  obtain ⟨s', e, _, hs⟩ := DataW.trod_string Tryd.underlying9 hn
  simp [Value.cells] at e
  subst e
  have : s.data.toList.length = s.size := by rw [Array.length_toList]; rfl
  exact ⟨s.data.toList, rfl, by omega⟩
theorem str_eq (l m : List UInt8) : ((⟨l.toArray⟩ : ByteArray).toList == (⟨m.toArray⟩ : ByteArray).toList) = decide (l = m) := by
  rw [Lib.toList_data, Lib.toList_data]
  show (l == m) = _
  by_cases h : l = m
  · rw [decide_eq_true h]; exact beq_iff_eq.2 h
  · rw [decide_eq_false h]; exact beq_eq_false_iff_ne.2 h
theorem conv_str (w : World) (l : List UInt8) (hl : l.length ≤ maxLen) : ∃ c w', (convert 9 97 (strV l)).run Tryd.prog w = .ok (.slice (some ⟨w.heap.size, 0, none⟩) l.length c) w' ∧
    BS w' (fun b => w.heap.size ≤ b ∧ b < w'.heap.size) (.slice (some ⟨w.heap.size, 0, none⟩) l.length c) l ∧ Below w.heap.size w w' := by
  refine ⟨_, _, Lib.run_convert_string_bytes (P := Tryd.prog) w 9 97 5 ⟨l.toArray⟩ (u := .string) Tryd.underlying9 Tryd.underlying97 Tryd.underlying5, ?_, ?_⟩
  · refine ⟨_, _, rfl, grownCap_ge _ _ _ _, grownCap_le_maxLen _ _ _ _ hl, (fun h => by cases h), fun h0 => ⟨w.heap.size, 0, rfl, ⟨Nat.le_refl _, by rw [Lib.bytesWorld_size]; omega⟩, by rw [Lib.bytesWorld_size]; omega, fun j u hu => ?_⟩⟩
    have hj := (List.getElem?_eq_some_iff.1 hu).1
    rw [Nat.zero_add, Lib.bytesWorld_cell w _ ⟨l.toArray⟩ j hj]
    simp [hu]
  · exact ⟨rfl, rfl, rfl, by rw [Lib.bytesWorld_size]; omega, fun j hj => Lib.bytesWorld_at_old w _ _ j hj⟩
end
section
open Go.RowKit
theorem step_grow {P : Program} {ops : Array Oper} {o : Oper} {a : Act} {w : World} {K : Act → World → Prop} {Q : Exit → Act → World → Prop} {E : Prop}
    (hg : o.guard = none) (s x : Operand) (t : TypeId) (hop : o.op = Op.call { callee := Callee.builtin Builtin.append, args := #[s, x], argTypes := #[t, t] })
    (base : Nat) (e : TypeId) (i : TypeInfo) (ht : P.underlying t = some (.slice e)) (hi : P.info? e = some i) (hz : i.zero = some (.int .u8 0))
    (hsize : i.size = 1) (hby : i.bytes = 1) (v : Value) (xs : List UInt8) (hs : a.eval s = v) (hown : w.ownsRow base e 1 v xs.length (xs.map bv))
    (S : Nat → Prop) (xv : Value) (ys : List UInt8) (hxe : a.eval x = xv) (hx : BS w S xv ys) (hb : xs.length + ys.length ≤ 140737488355328) (hbase : base ≤ w.heap.size)
    (hK : ∀ v' w', w'.ownsRow base e 1 v' (xs ++ ys).length ((xs ++ ys).map bv) → w.grownBy w' v.ownBlock → (v'.ownBlock = v.ownBlock ∨ v'.ownBlock = some w.heap.size) → K (a.put o.dst v') w') :
    if Region.wanted o (yielded ops a.tmps) = true then Oper.wp P o a w K Q else E := by
  have hw : Region.wanted o (yielded ops a.tmps) = true := by simp [Region.wanted, hg]
  rw [if_pos hw]
  obtain ⟨v', w', hrun, h2, h3, h4⟩ := run_grow (P := P) w base t o.type e i ht hi hz hsize hby v xs hown S xv ys hx hb hbase
  unfold Oper.wp execOp
  simp only [hop, resolve, invoke, builtin, Sem.run_bind, Sem.run_pure, Result.andThen_ok, List.map_toArray, List.map_cons, List.map_nil, hs, hxe, hrun]
  exact hK _ _ h2 h3 h4
theorem wp_grow {P : Program} {o : Oper} {a : Act} {w : World} {K : Act → World → Prop} {Q : Exit → Act → World → Prop}
    (s x : Operand) (t : TypeId) (hop : o.op = Op.call { callee := Callee.builtin Builtin.append, args := #[s, x], argTypes := #[t, t] })
    (base : Nat) (e : TypeId) (i : TypeInfo) (ht : P.underlying t = some (.slice e)) (hi : P.info? e = some i) (hz : i.zero = some (.int .u8 0))
    (hsize : i.size = 1) (hby : i.bytes = 1) (v : Value) (xs : List UInt8) (hs : a.eval s = v) (hown : w.ownsRow base e 1 v xs.length (xs.map bv))
    (S : Nat → Prop) (xv : Value) (ys : List UInt8) (hxe : a.eval x = xv) (hx : BS w S xv ys) (hb : xs.length + ys.length ≤ 140737488355328) (hbase : base ≤ w.heap.size)
    (hK : ∀ v' w', w'.ownsRow base e 1 v' (xs ++ ys).length ((xs ++ ys).map bv) → w.grownBy w' v.ownBlock → (v'.ownBlock = v.ownBlock ∨ v'.ownBlock = some w.heap.size) → K (a.put o.dst v') w') :
    Oper.wp P o a w K Q := by
  obtain ⟨v', w', hrun, h2, h3, h4⟩ := run_grow (P := P) w base t o.type e i ht hi hz hsize hby v xs hown S xv ys hx hb hbase
  unfold Oper.wp execOp
  simp only [hop, resolve, invoke, builtin, Sem.run_bind, Sem.run_pure, Result.andThen_ok, List.map_toArray, List.map_cons, List.map_nil, hs, hxe, hrun]
  exact hK _ _ h2 h3 h4
theorem own_ne {w : World} {B e size n g : Nat} {v : Value} {xs : List Value} (h : w.ownsRow B e size v n xs) (hg : g < B) : v.ownBlock ≠ some g := by
  obtain ⟨_, h2⟩ := h
  rcases h2 with ⟨rfl, _⟩ | ⟨g', c, cur, rfl, hb, _⟩
  · simp [Value.ownBlock]
  · simp [Value.ownBlock]; omega
theorem own_ge {w : World} {B e size n : Nat} {v : Value} {xs : List Value} (h : w.ownsRow B e size v n xs) (k : Nat) (hk : v.ownBlock = some k) : B ≤ k := by
  rcases Nat.lt_or_ge k B with hlt | hge
  · exact absurd hk (own_ne h hlt)
  · exact hge
end
section
open Go.RowKit
def fourT (t : Tk) : List Value := [.int .i64 (t.kind : Int), strV t.text, .int .i64 t.n, .int .i64 (t.at_ : Int)]
def flatK (l : List Tk) : List Value := l.flatMap fourT
theorem flatK_cons (t : Tk) (l : List Tk) : flatK (t :: l) = fourT t ++ flatK l := rfl
theorem flatK_append (a b : List Tk) : flatK (a ++ b) = flatK a ++ flatK b := List.flatMap_append
theorem flatK_len : ∀ l : List Tk, (flatK l).length = l.length * 4
  | [] => rfl
  | q :: l => by rw [flatK_cons, List.length_append, flatK_len l, List.length_cons]; show 4 + _ = _; omega
theorem flatK_at : ∀ (l : List Tk) (i : Nat) (t : Tk), l[i]? = some t → ∀ k, k < 4 → (flatK l)[i * 4 + k]? = (fourT t)[k]?
  | [], i, q, h => by simp at h
  | p :: l, 0, q, h => by
    intro k hk
    simp at h
    subst h
    rw [flatK_cons, Nat.zero_mul, Nat.zero_add, List.getElem?_append_left (show k < (fourT p).length from hk)]
  | p :: l, i + 1, q, h => by
    intro k hk
    have := flatK_at l i q (by simpa using h) k hk
    rw [flatK_cons, List.getElem?_append_right (by show 4 ≤ _; omega), show (fourT p).length = 4 from rfl, ← this]
    congr 1
    omega
theorem flatK_one (t : Tk) : flatK [t] = fourT t := by unfold flatK; simp
theorem flatK_cells (l : List Tk) : ∀ u ∈ flatK l, u.oneCell' = true := by
  intro u hu
  obtain ⟨t, _, hu⟩ := List.mem_flatMap.1 hu
  simp [fourT] at hu
  rcases hu with rfl | rfl | rfl | rfl <;> rfl
def TS (w : World) (S : Nat → Prop) (v : Value) (l : List Tk) : Prop :=
  ∃ A c, v = .slice A l.length c ∧ l.length ≤ c ∧ c ≤ maxLen ∧
    (0 < l.length → ∃ b o, A = some ⟨b, o, none⟩ ∧ S b ∧ b < w.heap.size ∧ ∀ j t, l[j]? = some t →
      w.cell? ⟨b, o + j * 4, none⟩ = some (.int .i64 (t.kind : Int)) ∧ w.cell? ⟨b, o + j * 4 + 1, none⟩ = some (strV t.text) ∧ w.cell? ⟨b, o + j * 4 + 2, none⟩ = some (.int .i64 t.n) ∧ w.cell? ⟨b, o + j * 4 + 3, none⟩ = some (.int .i64 (t.at_ : Int)))
section
variable {w w' : World} {S S' : Nat → Prop} {v : Value} {l : List Tk}
theorem TS.keep (h : TS w S v l) (hs : w.heap.size ≤ w'.heap.size) (hk : ∀ b, S b → b < w.heap.size → w'.heap[b]? = w.heap[b]?) : TS w' S v l := by
  obtain ⟨A, c, e, hl, hc, hx⟩ := h
  refine ⟨A, c, e, hl, hc, fun h0 => ?_⟩
  obtain ⟨b, o, ea, sb, hb, hx⟩ := hx h0
  have hkb := hk b sb hb
  refine ⟨b, o, ea, sb, Nat.lt_of_lt_of_le hb hs, fun j f hj => ?_⟩
  obtain ⟨h1, h2, h3, h4⟩ := hx j f hj
  exact ⟨(World.cell?_of_block (w := w) hkb).trans h1, (World.cell?_of_block (w := w) hkb).trans h2, (World.cell?_of_block (w := w) hkb).trans h3, (World.cell?_of_block (w := w) hkb).trans h4⟩
theorem TS.below' (h : TS w S v l) (hb : Below w.heap.size w w') : TS w' S v l := h.keep hb.size fun b _ hlt => hb.block b hlt
theorem TS.form (h : TS w S v l) : ∃ A c, v = .slice A l.length c ∧ l.length ≤ c ∧ c ≤ maxLen := by
  obtain ⟨A, c, e, hl, hc, _⟩ := h
  exact ⟨A, c, e, hl, hc⟩
theorem TS.at_ {A : Option Addr} {n c : Nat} (h : TS w S (.slice A n c) l) (hp : 0 < l.length) :
    ∃ b o, A = some ⟨b, o, none⟩ ∧ S b ∧ b < w.heap.size ∧ ∀ j t, l[j]? = some t →
      w.cell? ⟨b, o + j * 4, none⟩ = some (.int .i64 (t.kind : Int)) ∧ w.cell? ⟨b, o + j * 4 + 1, none⟩ = some (strV t.text) ∧ w.cell? ⟨b, o + j * 4 + 2, none⟩ = some (.int .i64 t.n) ∧ w.cell? ⟨b, o + j * 4 + 3, none⟩ = some (.int .i64 (t.at_ : Int)) := by
  obtain ⟨A', c', e, _, _, hx⟩ := h
  injection e with e1 e2 e3
  subst e1
  exact hx hp
theorem TS.nil (w : World) (S : Nat → Prop) : TS w S (.slice none 0 0) [] := ⟨none, 0, rfl, by simp, by simp [maxLen], fun h => absurd h (by simp)⟩
theorem TS_of_own {base e : Nat} (h : w.ownsRow base e 4 v l.length (flatK l)) : TS w (fun b => base ≤ b) v l := by
  obtain ⟨_, h2⟩ := h
  rcases h2 with ⟨rfl, h0⟩ | ⟨g, cap, cur, rfl, hb, hg, hnc, hcm, hcs, htk⟩
  · obtain rfl : l = [] := List.eq_nil_of_length_eq_zero h0
    exact TS.nil _ _
  · have hlt : g < w.heap.size := (Array.getElem?_eq_some_iff.1 hg).1
    refine ⟨_, cap, rfl, hnc, hcm, fun h0 => ⟨g, 0, rfl, hb, hlt, fun i f hi => ?_⟩⟩
    have hil := (List.getElem?_eq_some_iff.1 hi).1
    have cell : ∀ k u, k < 4 → (fourT f)[k]? = some u → w.cell? ⟨g, 0 + i * 4 + k, none⟩ = some u := fun k u hk hu => by
      rw [← flatK_at l i f hi k hk] at hu
      rw [cell_of_row w g (0 + i * 4 + k) cur _ (0, 0) hg, Nat.zero_add]
      rw [← htk, List.getElem?_take, if_pos (by omega)] at hu
      simpa using hu
    exact ⟨cell 0 _ (by omega) rfl, cell 1 _ (by omega) rfl, cell 2 _ (by omega) rfl, cell 3 _ (by omega) rfl⟩
theorem own_slice {base e : Nat} (h : w.ownsRow base e 4 v l.length (flatK l)) : ∃ A c, v = .slice A l.length c := by
  obtain ⟨A, c, e, _⟩ := TS_of_own h
  exact ⟨A, c, e⟩
end
structure TokT (t e : TypeId) : Prop where
  u : Tryd.prog.underlying t = some (.slice e)
  i : (Tryd.prog.info? e).map (fun i => (i.zero, i.size, i.bytes)) = some (some (.agg #[.int .i64 0, .string ⟨#[]⟩, .int .i64 0, .int .i64 0]), 4, 40)
theorem run_growK {t e : TypeId} (ht : TokT t e) (w : World) (base : Nat) (v : Value) (l : List Tk) (hown : w.ownsRow base e 4 v l.length (flatK l)) (ad : Addr) (c : Nat) (x : Tk) (hx : ∀ j u, (fourT x)[j]? = some u → w.cell? (ad.add j) = some u)
    (hb : l.length ≤ 1000000000) (hbase : base ≤ w.heap.size) (ty : TypeId) :
    ∃ v' w', (Builtin.append_ #[t, t] ty #[v, .slice (some ad) 1 c]).run Tryd.prog w = .ok v' w' ∧ w'.ownsRow base e 4 v' (l ++ [x]).length (flatK (l ++ [x])) ∧ w.grownBy w' v.ownBlock ∧
      (v'.ownBlock = v.ownBlock ∨ v'.ownBlock = some w.heap.size) := by
  obtain ⟨i0, hi, hz0, hz1, hz2⟩ := info_parts ht.i
  obtain ⟨v', w', a1, a2, a3, _, a5⟩ := run_append_own_at (P := Tryd.prog) (w := w) base t ty e i0 _ 4 40 ht.u hi hz0 hz1 hz2 rfl (by omega) v l.length _ hown ad 1 c (flatK [x]) (flatK_len [x]) (by rw [flatK_one]; exact hx) (flatK_cells [x])
    (by unfold maxLen; omega) (by omega) hbase
  exact ⟨v', w', a1, by rw [List.length_append, flatK_append]; exact a2, a3, a5⟩
theorem wpList_growK {t e : TypeId} (ht : TokT t e) (w : World) {ops : Array Oper} {rest : List Oper} {o : Oper} {a : Act} {Q : Exit → Act → World → Prop} (hgd : o.guard = none) (s y : Operand)
    (ho : o.op = .call { callee := .builtin .append, args := #[s, y], argTypes := #[t, t] })
    (base : Nat) (v : Value) (l : List Tk) (hs : a.eval s = v) (hown : w.ownsRow base e 4 v l.length (flatK l))
    (ad : Addr) (c : Nat) (x : Tk) (hye : a.eval y = .slice (some ad) 1 c) (hx : ∀ j u, (fourT x)[j]? = some u → w.cell? (ad.add j) = some u)
    (hb : l.length ≤ 1000000000) (hbase : base ≤ w.heap.size)
    (h : ∀ v' w', w'.ownsRow base e 4 v' (l ++ [x]).length (flatK (l ++ [x])) → w.grownBy w' v.ownBlock → (v'.ownBlock = v.ownBlock ∨ v'.ownBlock = some w.heap.size) → wpList Tryd.prog ops Q rest (a.put o.dst v') w') :
    wpList Tryd.prog ops Q (o :: rest) a w := by
  refine wpList_plain hgd fun K hK => ?_
  obtain ⟨v', w', hrun, h2, h3, h4⟩ := run_growK ht w base v l hown ad c x hx hb hbase o.type
  unfold Oper.wp execOp
  simp only [ho, resolve, invoke, builtin, Sem.run_bind, Sem.run_pure, Result.andThen_ok, List.map_toArray, List.map_cons, List.map_nil, hs, hye, hrun]
  exact hK _ _ (h v' w' h2 h3 h4)
theorem onek_at (w : World) (t : TypeId) (x : Tk) : ∀ j u, (fourT x)[j]? = some u → (w.alloc (.cells #[.int .i64 (x.kind : Int), strV x.text, .int .i64 x.n, .int .i64 (x.at_ : Int)] t)).cell? ((⟨w.heap.size, 0, none⟩ : Addr).add j) = some u := by
  intro j u h
  rw [Addr.add_lit, Nat.zero_add, (KB.new w t #[.int .i64 (x.kind : Int), strV x.text, .int .i64 x.n, .int .i64 (x.at_ : Int)]).cell]
  simpa [fourT] using h
theorem tok_lex : TokT 49 59 := ⟨Tryd.underlying49, by kernel_rfl⟩
end
end Go.Proofs.YthindhlogkhclaaDoor
