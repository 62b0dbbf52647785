/-
  Lists of whole numbers in memory: what a []int reads as, append onto one of a call's own, one that came in; and the document's SameInts (layer 1), over the loaded program: its contract. No condition.
-/
import Derived.Test.YtommcdgognlfcaaBase
import Derived.Test.YtommcdgognlfcaaKp
import Derived.Test.YtommcdgognlfcaaArgs
import Derived.WalkSpells
import Derived.BigQuiet
import Derived.Deep.QuietTactic
namespace Go.Proofs.Ytommcdgognlfcaa
open Go.RowKit Go.ChangeShapes Go.WideShapes Go.Joins
set_option maxRecDepth 100000
set_option linter.unusedVariables false

/-- A whole number as a value. -/
abbrev iv (z : Int) : Value := .int .i64 z

/-- The slice value v reads, in w, as the numbers l; where it is not empty it lies in a block of which S holds. -/
def IS (w : World) (S : Nat → Prop) (v : Value) (l : List Int) : Prop :=
  ∃ A c, v = .slice A l.length c ∧ l.length ≤ c ∧ c ≤ maxLen ∧ (A = none → c = 0) ∧
    (0 < l.length → ∃ b o, A = some ⟨b, o, none⟩ ∧ S b ∧ b < w.heap.size ∧ ∀ j z, l[j]? = some z → w.cell? ⟨b, o + j, none⟩ = some (.int .i64 z))

section
variable {w w' : World} {S S' : Nat → Prop} {v : Value} {l : List Int}
theorem IS.nil (w : World) (S : Nat → Prop) : IS w S (.slice none 0 0) [] := ⟨none, 0, rfl, by simp, by simp [maxLen], fun _ => rfl, fun h => absurd h (by simp)⟩
theorem IS.keep (h : IS w S v l) (hs : w.heap.size ≤ w'.heap.size) (hk : ∀ b, S b → b < w.heap.size → w'.heap[b]? = w.heap[b]?) : IS w' S v l := by
  obtain ⟨A, c, e, hl, hc, hn, hx⟩ := h
  refine ⟨A, c, e, hl, hc, hn, fun h0 => ?_⟩
  obtain ⟨b, o, ea, sb, hb, hx⟩ := hx h0
  exact ⟨b, o, ea, sb, by omega, fun j u hu => (World.cell?_of_block (w := w) (hk b sb hb)).trans (hx j u hu)⟩
theorem IS.mono (h : IS w S v l) (hs : ∀ b, S b → S' b) : IS w S' v l := by
  obtain ⟨A, c, e, hl, hc, hn, hx⟩ := h
  refine ⟨A, c, e, hl, hc, hn, fun h0 => ?_⟩
  obtain ⟨b, o, ea, sb, r⟩ := hx h0
  exact ⟨b, o, ea, hs b sb, r⟩
theorem IS.lt (h : IS w S v l) : IS w (fun b => S b ∧ b < w.heap.size) v l := by
  obtain ⟨A, c, e, hl, hc, hn, hx⟩ := h
  refine ⟨A, c, e, hl, hc, hn, fun h0 => ?_⟩
  obtain ⟨b, o, ea, sb, hb, r⟩ := hx h0
  exact ⟨b, o, ea, ⟨sb, hb⟩, hb, r⟩
theorem IS.below' (h : IS w S v l) (hg : Below w.heap.size w w') : IS w' S v l := h.keep hg.size fun b _ hb => hg.block b hb
theorem IS.alloc (h : IS w S v l) (o : Obj) : IS (w.alloc o) S v l := h.keep (by simp) fun b _ hb => Below.heap_alloc w o b hb
theorem IS.drewN (h : IS w S v l) (n : Nat) : IS (w.drewN n) S v l := h
theorem IS.setCell (h : IS w S v l) {p : Addr} (hp : ¬ S p.block) (u : Value) : IS (w.setCell p u) S v l :=
  h.keep (by simp [World.setCell]) fun b sb _ => Below.heap_setCell w p u b (fun e => hp (e ▸ sb))
theorem IS.form (h : IS w S v l) : ∃ A c, v = .slice A l.length c ∧ l.length ≤ c ∧ c ≤ maxLen ∧ (A = none → c = 0) := by
  obtain ⟨A, c, e, hl, hc, hn, hx⟩ := h
  exact ⟨A, c, e, hl, hc, hn⟩
theorem IS.at_ {A : Option Addr} {n c : Nat} (h : IS w S (.slice A n c) l) (hp : 0 < l.length) :
    ∃ b o, A = some ⟨b, o, none⟩ ∧ S b ∧ b < w.heap.size ∧ ∀ j z, l[j]? = some z → w.cell? ⟨b, o + j, none⟩ = some (.int .i64 z) := by
  obtain ⟨A', c', e, hl, hc, hn, hx⟩ := h
  injection e with e1 e2 e3
  subst e1
  exact hx hp
theorem IS.drop {b o n c : Nat} (h : IS w S (.slice (some ⟨b, o, none⟩) n c) l) (k : Nat) (hk : k ≤ l.length) : IS w S (.slice (some (if c = k then ⟨b, o, none⟩ else ⟨b, o + k, none⟩)) (n - k) (c - k)) (l.drop k) := by
  obtain ⟨A', c', e, hl, hc, hn, hx⟩ := h
  injection e with e1 e2 e3
  subst e1 e2 e3
  refine ⟨some (if c = k then ⟨b, o, none⟩ else ⟨b, o + k, none⟩), c - k, by rw [List.length_drop], by rw [List.length_drop]; omega, by omega, (fun h => by cases h), fun h0 => ?_⟩
  rw [List.length_drop] at h0
  obtain ⟨b', o', ea, sb, hb, hx⟩ := hx (by omega)
  injection ea with ea
  injection ea with ea eo
  subst ea eo
  rw [if_neg (by omega)]
  refine ⟨b, o + k, rfl, sb, hb, fun j u hu => ?_⟩
  rw [Nat.add_assoc]
  exact hx (k + j) u (by rw [← hu, List.getElem?_drop])
/-- What a row of the call's own reads as. -/
theorem IS.of_own {base e n : Nat} (h : w.ownsRow base e 1 v n (l.map iv)) : IS w (fun b => base ≤ b) v l := by
  obtain ⟨h1, h2⟩ := h
  have hn : n = l.length := by simpa using h1.symm
  subst hn
  rcases h2 with ⟨rfl, h0⟩ | ⟨g, cap, cur, rfl, hb, hg, hnc, hcm, hcs, htk⟩
  · obtain rfl : l = [] := List.eq_nil_of_length_eq_zero h0
    exact IS.nil w _
  · refine ⟨_, _, rfl, hnc, hcm, (fun h => by cases h), fun _ => ⟨g, 0, rfl, hb, (Array.getElem?_eq_some_iff.1 hg).1, fun j u hu => ?_⟩⟩
    rw [Nat.zero_add, cell_of_row w g j cur e (0, 0) hg]
    have : (l.map iv)[j]? = some (iv u) := by simp [hu]
    rw [← htk, List.getElem?_take] at this
    split at this
    · simpa using this
    · cases this
end

theorem own_IS {w' : World} {v : Value} {l : List Int} {B : Nat} (h : w'.ownsRow B 3 1 v l.length (l.map iv)) : IS w' (fun b => B ≤ b ∧ b < w'.heap.size) v l := (IS.of_own h).lt
theorem ints_one (l : List Int) : ∀ u ∈ l.map iv, u.oneCell' = true := by
  intro u hu
  obtain ⟨b, _, rfl⟩ := List.mem_map.1 hu
  rfl
/-- A list of known numbers, laid into a block of the call's own. -/
theorem IS.lit (w : World) (t : TypeId) (l : List Int) (hl : l.length ≤ maxLen) (fr : Nat × Nat := (0, 0)) : IS (w.alloc (.cells (l.map iv).toArray t fr)) (fun b => w.heap.size ≤ b) (.slice (some ⟨w.heap.size, 0, none⟩) l.length l.length) l := by
  refine ⟨_, _, rfl, Nat.le_refl _, hl, (fun h => by cases h), fun _ => ⟨w.heap.size, 0, rfl, Nat.le_refl _, by simp, fun j u hu => ?_⟩⟩
  rw [Nat.zero_add, cell_of_row _ w.heap.size j _ t fr (heap_alloc_new w _)]
  simp [hu]

theorem info_int : (Try.prog.info? 3).map (fun i => (i.zero, i.size, i.bytes)) = some (some (.int .i64 0), 1, 8) := by kernel_rfl

/-- append of one number onto a row of the call's own. -/
theorem run_grow1 (w : World) (base : Nat) (ty : TypeId) (v : Value) (xs : List Int) (hown : w.ownsRow base 3 1 v xs.length (xs.map iv)) (z : Int) (g : Nat) (c : Nat) (hx : w.cell? ⟨g, 0, none⟩ = some (.int .i64 z)) (hb : xs.length ≤ 1000000000) (hbase : base ≤ w.heap.size) :
    ∃ v' w', (Builtin.append_ #[51, 51] ty #[v, .slice (some ⟨g, 0, none⟩) 1 c]).run Try.prog w = .ok v' w' ∧ w'.ownsRow base 3 1 v' (xs ++ [z]).length ((xs ++ [z]).map iv) ∧ w.grownBy w' v.ownBlock ∧
      (v'.ownBlock = v.ownBlock ∨ v'.ownBlock = some w.heap.size) := by
  obtain ⟨i0, hi, hz0, hz1, hz2⟩ := info_parts info_int
  have hnews : ∀ j u, ([z].map iv)[j]? = some u → w.cell? ((⟨g, 0, none⟩ : Addr).add j) = some u := by
    intro j u hu
    match j, hu with
    | 0, hu => simp at hu; subst hu; rw [Addr.add_lit]; exact hx
  obtain ⟨v', w', a1, a2, a3, _, a5⟩ := run_append_own_at (P := Try.prog) (w := w) base 51 ty 3 i0 _ 1 8 Try.underlying51 hi hz0 hz1 hz2 rfl (by omega) v xs.length _ hown ⟨g, 0, none⟩ 1 c ([z].map iv) (by simp) hnews (ints_one [z])
    (by unfold maxLen; omega) (by omega) hbase
  exact ⟨v', w', a1, by rw [List.length_append, List.map_append]; exact a2, a3, a5⟩

theorem wpList_grow1 (w : World) {ops : Array Oper} {rest : List Oper} {o : Oper} {a : Act} {Q : Exit → Act → World → Prop} (hgd : o.guard = none) (s x : Operand)
    (ho : o.op = .call { callee := .builtin .append, args := #[s, x], argTypes := #[51, 51] })
    (base : Nat) (v : Value) (xs : List Int) (hs : a.eval s = v) (hown : w.ownsRow base 3 1 v xs.length (xs.map iv))
    (z : Int) (g c : Nat) (hxe : a.eval x = .slice (some ⟨g, 0, none⟩) 1 c) (hx : w.cell? ⟨g, 0, none⟩ = some (.int .i64 z)) (hb : xs.length ≤ 1000000000) (hbase : base ≤ w.heap.size)
    (h : ∀ v' w', w'.ownsRow base 3 1 v' (xs ++ [z]).length ((xs ++ [z]).map iv) → w.grownBy w' v.ownBlock → (v'.ownBlock = v.ownBlock ∨ v'.ownBlock = some w.heap.size) → wpList Try.prog ops Q rest (a.put o.dst v') w') :
    wpList Try.prog ops Q (o :: rest) a w := by
  refine wpList_plain hgd fun K hK => ?_
  obtain ⟨v', w', hrun, h2, h3, h4⟩ := run_grow1 w base o.type v xs hown z g c hx hb hbase
  unfold Oper.wp execOp
  simp only [ho, resolve, invoke, builtin, Sem.run_bind, Sem.run_pure, Result.andThen_ok, List.map_toArray, List.map_cons, List.map_nil, hs, hxe, hrun]
  exact hK _ _ (h v' w' h2 h3 h4)

theorem cells_int : Try.prog.cellsOf 3 = 1 := by kernel_rfl

theorem IS_of_trod {H : Type} {enc : TypeId × Value → H} {W : World} {fuel : Nat} {v : Value} {x : DataW H × List MemPlace}
    (h : DataW.trod enc Try.prog W 0 (fun _ => true) true fuel 51 [v] = some x) : ∃ l, IS W (fun b => b < W.heap.size) v l ∧ ∀ z ∈ l, I64 z := by
  rcases open_ints Try.underlying51 Try.underlying3 cells_int h with ⟨hcs, _⟩ | ⟨a, len, cap, zs, hcs, _, hl, hm, hz, _, hcell, hwz⟩
  · simp at hcs
    subst hcs
    exact ⟨[], IS.nil _ _, fun z hz => by simp at hz⟩
  · simp at hcs
    subst hcs
    simp only [if_true] at hz
    have hlen : (zs.take len).length = len := by simp; omega
    refine ⟨zs.take len, ⟨some a, cap, by rw [hlen], by omega, hm, (fun h => by cases h), fun h0 => ?_⟩, fun z hzm => ?_⟩
    · rw [hlen] at h0
      obtain ⟨b, o, rfl, hc⟩ := ints_at hcell (by omega)
      have k0 := World.block_lt_of_cell? _ _ (hc 0 (by omega))
      refine ⟨b, o, rfl, k0, k0, fun j u hu => ?_⟩
      have hj : j < len := by
        have := (List.getElem?_eq_some_iff.1 hu).1
        omega
      rw [hc j (by omega)]
      have hjz : j < zs.length := by omega
      simp [hj, List.getElem?_eq_getElem hjz] at hu
      subst hu
      simp [List.getD, List.getElem?_eq_getElem hjz]
    · have := hwz z (List.mem_of_mem_take hzm)
      simpa [I64, Lit.wf, IntKind.min, IntKind.max, IntKind.signed, IntKind.bits] using this

/-- A list of numbers that came in. -/
theorem IS_of_arg {H : Type} {enc : TypeId × Value → H} {W : World} {base : Nat} {v : Value} {d : DataW H} {p : List MemPlace}
    (ok : Value.okWide Try.prog W .any base 51 v) (h : DataW.Trod enc Try.prog W 0 (fun _ => true) true 51 v d p) : ∃ l, IS W (fun b => b < W.heap.size) v l ∧ ∀ z ∈ l, I64 z := by
  obtain ⟨a0, len, cap, rfl⟩ := okWide_slice Try.underlying51 ok
  obtain ⟨fuel, hf⟩ := h
  exact IS_of_trod (x := _) hf

theorem take_one_moreI {l m : List Int} {k : Nat} (h : l.take k = m.take k) (hl : k < l.length) (hm : k < m.length) (e : l[k] = m[k]) : l.take (k + 1) = m.take (k + 1) := by
  rw [List.take_add_one, List.take_add_one, h, List.getElem?_eq_getElem hl, List.getElem?_eq_getElem hm, e]

end Go.Proofs.Ytommcdgognlfcaa
