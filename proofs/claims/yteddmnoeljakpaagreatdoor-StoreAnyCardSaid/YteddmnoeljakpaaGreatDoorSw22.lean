/-
  Ints: Lists of whole numbers in memory: what a []int reads as, append onto one of a call's own, one that came in; and the document's SameInts (layer 1), over the loaded program: its contract. No condition.
  InI: Inodes in memory: what a value of three cells reads as; kept over what turns elsewhere; an inode that came in, opened. No condition.
  StH: A store in memory: the map of its files, its struct, its log, its disk; kept over what turns elsewhere; made. No condition but what each theorem names.
  AlA: The program's own functions of layer 11: groups, Pages, mayBe, bit: each one's contract over the loaded program. No condition but sizes that each contract names.
  AlR: The document's own Has and Pages (layer 11), over the loaded program: each one's contract. No condition but sizes that each contract names.
  DkO: Arguments of the statements of layer 8, opened: a list of acts, and a list of bools. No condition.
  Bools: Lists of bools in memory: what a []bool reads as; one that came in: over the loaded program. No condition.
  AlP: Count and Pick of layer 11: the program's own, and the document's: each one's contract over the loaded program. No condition but sizes that each contract names.
-/
import Derived.Test.YteddmnoeljakpaaGreatDoorSw00
import Derived.Test.YteddmnoeljakpaaGreatDoorSw02
import Derived.WalkSpells
import Derived.BigQuiet
import Derived.Deep.QuietTactic
import Derived.Test.YteddmnoeljakpaaGreatDoorSw20
import Derived.Test.YteddmnoeljakpaaGreatDoorSw21
import Derived.Test.YteddmnoeljakpaaGreatDoorSw10
import Derived.Test.YteddmnoeljakpaaGreatDoorSw01
import Derived.Deep.Grids
set_option linter.unusedVariables false
set_option maxRecDepth 100000
namespace Go.Proofs.YteddmnoeljakpaaGreatDoor
section
open Go.RowKit Go.ChangeShapes Go.WideShapes Go.Joins
abbrev iv (z : Int) : Value := .int .i64 z
def IS (w : World) (S : Nat → Prop) (v : Value) (l : List Int) : Prop :=
  ∃ A c, v = .slice A l.length c ∧ l.length ≤ c ∧ c ≤ maxLen ∧ (A = none → c = 0) ∧
    (0 < l.length → ∃ b o, A = some ⟨b, o, none⟩ ∧ S b ∧ b < w.heap.size ∧ ∀ j z, l[j]? = some z → w.cell? ⟨b, o + j, none⟩ = some (.int .i64 z))
section
variable {w w' : World} {S S' : Nat → Prop} {v : Value} {l : List Int}
theorem IS.nil (w : World) (S : Nat → Prop) : IS w S (.slice none 0 0) [] := ⟨none, 0, rfl, by simp, by simp [maxLen], fun _ => rfl, fun h => absurd h (by simp)⟩
theorem IS.keep (h : IS w S v l) (hs : w.heap.size ≤ w'.heap.size) (hk : ∀ b, S b → b < w.heap.size → w'.heap[b]? = w.heap[b]?) : IS w' S v l := by
  obtain ⟨A, c, e, hl, hc, hn, hx⟩ := h
  refine ⟨A, c, e, hl, hc, hn, fun h0 => ?_⟩
  obtain ⟨b, o, ea, sb, hb, hx⟩ := hx h0
  exact ⟨b, o, ea, sb, by omega, fun j u hu => (World.cell?_of_block (w := w) (hk b sb hb)).trans (hx j u hu)⟩
theorem IS.mono (h : IS w S v l) (hs : ∀ b, S b → S' b) : IS w S' v l := by
  obtain ⟨A, c, e, hl, hc, hn, hx⟩ := h
  refine ⟨A, c, e, hl, hc, hn, fun h0 => ?_⟩
  obtain ⟨b, o, ea, sb, r⟩ := hx h0
  exact ⟨b, o, ea, hs b sb, r⟩
theorem IS.lt (h : IS w S v l) : IS w (fun b => S b ∧ b < w.heap.size) v l := by
  obtain ⟨A, c, e, hl, hc, hn, hx⟩ := h
  refine ⟨A, c, e, hl, hc, hn, fun h0 => ?_⟩
  obtain ⟨b, o, ea, sb, hb, r⟩ := hx h0
  exact ⟨b, o, ea, ⟨sb, hb⟩, hb, r⟩
theorem IS.below' (h : IS w S v l) (hg : Below w.heap.size w w') : IS w' S v l := h.keep hg.size fun b _ hb => hg.block b hb
theorem IS.alloc (h : IS w S v l) (o : Obj) : IS (w.alloc o) S v l := h.keep (by simp) fun b _ hb => Below.heap_alloc w o b hb
theorem IS.drewN (h : IS w S v l) (n : Nat) : IS (w.drewN n) S v l := h
theorem IS.setCell (h : IS w S v l) {p : Addr} (hp : ¬ S p.block) (u : Value) : IS (w.setCell p u) S v l :=
  h.keep (by simp [World.setCell]) fun b sb _ => Below.heap_setCell w p u b (fun e => hp (e ▸ sb))
theorem IS.form (h : IS w S v l) : ∃ A c, v = .slice A l.length c ∧ l.length ≤ c ∧ c ≤ maxLen ∧ (A = none → c = 0) := by
  obtain ⟨A, c, e, hl, hc, hn, hx⟩ := h
  exact ⟨A, c, e, hl, hc, hn⟩
theorem IS.at_ {A : Option Addr} {n c : Nat} (h : IS w S (.slice A n c) l) (hp : 0 < l.length) :
    ∃ b o, A = some ⟨b, o, none⟩ ∧ S b ∧ b < w.heap.size ∧ ∀ j z, l[j]? = some z → w.cell? ⟨b, o + j, none⟩ = some (.int .i64 z) := by
  obtain ⟨A', c', e, hl, hc, hn, hx⟩ := h
  injection e with e1 e2 e3
  subst e1
  exact hx hp
theorem IS.drop {b o n c : Nat} (h : IS w S (.slice (some ⟨b, o, none⟩) n c) l) (k : Nat) (hk : k ≤ l.length) : IS w S (.slice (some (if c = k then ⟨b, o, none⟩ else ⟨b, o + k, none⟩)) (n - k) (c - k)) (l.drop k) := by
  obtain ⟨A', c', e, hl, hc, hn, hx⟩ := h
  injection e with e1 e2 e3
  subst e1 e2 e3
  refine ⟨some (if c = k then ⟨b, o, none⟩ else ⟨b, o + k, none⟩), c - k, by rw [List.length_drop], by rw [List.length_drop]; omega, by omega, (fun h => by cases h), fun h0 => ?_⟩
  rw [List.length_drop] at h0
  obtain ⟨b', o', ea, sb, hb, hx⟩ := hx (by omega)
  injection ea with ea
  injection ea with ea eo
  subst ea eo
  rw [if_neg (by omega)]
  refine ⟨b, o + k, rfl, sb, hb, fun j u hu => ?_⟩
  rw [Nat.add_assoc]
  exact hx (k + j) u (by rw [← hu, List.getElem?_drop])
theorem IS.of_own {base e n : Nat} (h : w.ownsRow base e 1 v n (l.map iv)) : IS w (fun b => base ≤ b) v l := by
  obtain ⟨h1, h2⟩ := h
  have hn : n = l.length := by simpa using h1.symm
  subst hn
  rcases h2 with ⟨rfl, h0⟩ | ⟨g, cap, cur, rfl, hb, hg, hnc, hcm, hcs, htk⟩
  · obtain rfl : l = [] := List.eq_nil_of_length_eq_zero h0
    exact IS.nil w _
  · refine ⟨_, _, rfl, hnc, hcm, (fun h => by cases h), fun _ => ⟨g, 0, rfl, hb, (Array.getElem?_eq_some_iff.1 hg).1, fun j u hu => ?_⟩⟩
    rw [Nat.zero_add, cell_of_row w g j cur e (0, 0) hg]
    have : (l.map iv)[j]? = some (iv u) := by simp [hu]
    rw [← htk, List.getElem?_take] at this
    split at this
    · simpa using this
    · cases this
end
theorem own_IS {w' : World} {v : Value} {l : List Int} {B : Nat} (h : w'.ownsRow B 3 1 v l.length (l.map iv)) : IS w' (fun b => B ≤ b ∧ b < w'.heap.size) v l := (IS.of_own h).lt
theorem ints_one (l : List Int) : ∀ u ∈ l.map iv, u.oneCell' = true := by
  intro u hu
  obtain ⟨b, _, rfl⟩ := List.mem_map.1 hu
  rfl
theorem info_int : (Tryz.prog.info? 3).map (fun i => (i.zero, i.size, i.bytes)) = some (some (.int .i64 0), 1, 8) := by kernel_rfl
theorem run_grow1 (w : World) (base : Nat) (ty : TypeId) (v : Value) (xs : List Int) (hown : w.ownsRow base 3 1 v xs.length (xs.map iv)) (z : Int) (g : Nat) (c : Nat) (hx : w.cell? ⟨g, 0, none⟩ = some (.int .i64 z)) (hb : xs.length ≤ 1000000000) (hbase : base ≤ w.heap.size) :
    ∃ v' w', (Builtin.append_ #[89, 89] ty #[v, .slice (some ⟨g, 0, none⟩) 1 c]).run Tryz.prog w = .ok v' w' ∧ w'.ownsRow base 3 1 v' (xs ++ [z]).length ((xs ++ [z]).map iv) ∧ w.grownBy w' v.ownBlock ∧
      (v'.ownBlock = v.ownBlock ∨ v'.ownBlock = some w.heap.size) := by
  obtain ⟨i0, hi, hz0, hz1, hz2⟩ := info_parts info_int
  have hnews : ∀ j u, ([z].map iv)[j]? = some u → w.cell? ((⟨g, 0, none⟩ : Addr).add j) = some u := by
    intro j u hu
    match j, hu with
    | 0, hu => simp at hu; subst hu; rw [Addr.add_lit]; exact hx
  obtain ⟨v', w', a1, a2, a3, _, a5⟩ := run_append_own_at (P := Tryz.prog) (w := w) base 89 ty 3 i0 _ 1 8 Tryz.underlying89 hi hz0 hz1 hz2 rfl (by omega) v xs.length _ hown ⟨g, 0, none⟩ 1 c ([z].map iv) (by simp) hnews (ints_one [z])
    (by unfold maxLen; omega) (by omega) hbase
  exact ⟨v', w', a1, by rw [List.length_append, List.map_append]; exact a2, a3, a5⟩
theorem wpList_grow1 (w : World) {ops : Array Oper} {rest : List Oper} {o : Oper} {a : Act} {Q : Exit → Act → World → Prop} (hgd : o.guard = none) (s x : Operand)
    (ho : o.op = .call { callee := .builtin .append, args := #[s, x], argTypes := #[89, 89] })
    (base : Nat) (v : Value) (xs : List Int) (hs : a.eval s = v) (hown : w.ownsRow base 3 1 v xs.length (xs.map iv))
    (z : Int) (g c : Nat) (hxe : a.eval x = .slice (some ⟨g, 0, none⟩) 1 c) (hx : w.cell? ⟨g, 0, none⟩ = some (.int .i64 z)) (hb : xs.length ≤ 1000000000) (hbase : base ≤ w.heap.size)
    (h : ∀ v' w', w'.ownsRow base 3 1 v' (xs ++ [z]).length ((xs ++ [z]).map iv) → w.grownBy w' v.ownBlock → (v'.ownBlock = v.ownBlock ∨ v'.ownBlock = some w.heap.size) → wpList Tryz.prog ops Q rest (a.put o.dst v') w') :
    wpList Tryz.prog ops Q (o :: rest) a w := by
  refine wpList_plain hgd fun K hK => ?_
  obtain ⟨v', w', hrun, h2, h3, h4⟩ := run_grow1 w base o.type v xs hown z g c hx hb hbase
  unfold Oper.wp execOp
  simp only [ho, resolve, invoke, builtin, Sem.run_bind, Sem.run_pure, Result.andThen_ok, List.map_toArray, List.map_cons, List.map_nil, hs, hxe, hrun]
  exact hK _ _ (h v' w' h2 h3 h4)
theorem cells_int : Tryz.prog.cellsOf 3 = 1 := by kernel_rfl
end
section
open Go.RowKit Go.ChangeShapes Go.WideShapes Go.Joins
def IV (w : World) (S : Nat → Prop) (v : Value) (x : Ino) : Prop :=
  ∃ a, v = .agg #[strV x.name, .int .i64 x.size, a] ∧ IS w S a x.at_ ∧ I64 x.size ∧ x.name.length ≤ maxLen
section
variable {w w' : World} {S S' : Nat → Prop} {v : Value} {x : Ino}
theorem IV.keep (h : IV w S v x) (hs : w.heap.size ≤ w'.heap.size) (hk : ∀ b, S b → b < w.heap.size → w'.heap[b]? = w.heap[b]?) : IV w' S v x := by
  obtain ⟨a, e, h1, h2⟩ := h
  exact ⟨a, e, h1.keep hs hk, h2⟩
theorem IV.mono (h : IV w S v x) (hs : ∀ b, S b → S' b) : IV w S' v x := by
  obtain ⟨a, e, h1, h2⟩ := h
  exact ⟨a, e, h1.mono hs, h2⟩
theorem IV.lt (h : IV w S v x) : IV w (fun b => S b ∧ b < w.heap.size) v x := by
  obtain ⟨a, e, h1, h2⟩ := h
  exact ⟨a, e, h1.lt, h2⟩
theorem IV.below' (h : IV w S v x) (hg : Below w.heap.size w w') : IV w' S v x := h.keep hg.size fun b _ hb => hg.block b hb
theorem IV.alloc (h : IV w S v x) (o : Obj) : IV (w.alloc o) S v x := h.keep (by simp) fun b _ hb => Below.heap_alloc w o b hb
theorem IV.zero (w : World) (S : Nat → Prop) : IV w S (.agg #[.string ⟨#[]⟩, .int .i64 0, .slice none 0 0]) ino0 :=
  ⟨_, rfl, IS.nil _ _, ⟨by simp [ino0], by simp [ino0]⟩, by simp [ino0, maxLen]⟩
theorem IV.mk {a : Value} (nm : List UInt8) (z : Int) {l : List Int} (h : IS w S a l) (hz : I64 z) (hn : nm.length ≤ maxLen) : IV w S (.agg #[strV nm, .int .i64 z, a]) ⟨nm, z, l⟩ := ⟨a, rfl, h, hz, hn⟩
end
end
section
open Go.RowKit
abbrev Nd := Nat × Ino
def lookN (nl : List Nd) (n : List UInt8) : Option Nd := nl.find? fun q => decide (q.2.name = n)
def ndV (k : Nat) (x : Ino) (a : Value) : Value := .agg #[.int .i64 (k : Int), strV x.name, .int .i64 x.size, a]
def nd0 : Value := .agg #[.int .i64 0, .string ⟨#[]⟩, .int .i64 0, .slice none 0 0]
def NV (w : World) (S : Nat → Prop) (v : Value) (q : Nd) : Prop := ∃ a, v = ndV q.1 q.2 a ∧ IS w S a q.2.at_ ∧ I64 q.2.size ∧ q.2.name.length ≤ maxLen ∧ q.1 ≤ 1000000
def MF (w : World) (m : Nat) (S : Nat → Prop) (nl : List Nd) : Prop :=
  ∃ g, MT w m g nl.length ∧ (nl.map (·.2.name)).Nodup ∧ (∀ n, lookN nl n = none → g n = none) ∧ ∀ n q, lookN nl n = some q → ∃ v, g n = some v ∧ NV w S v q
section
variable {w w' : World} {m : Nat} {S S' : Nat → Prop} {nl : List Nd} {v : Value} {q : Nd} {n : List UInt8}
theorem lookN_some (h : lookN nl n = some q) : q ∈ nl ∧ q.2.name = n := ⟨List.mem_of_find?_eq_some h, by simpa using List.find?_some h⟩
theorem lookN_none (h : lookN nl n = none) : ∀ q ∈ nl, q.2.name ≠ n := fun q hq e => by
  have := List.find?_eq_none.1 h q hq
  simp [e] at this
theorem lookN_mem (hn : (nl.map (·.2.name)).Nodup) (hq : q ∈ nl) : lookN nl q.2.name = some q := by
  cases h : lookN nl q.2.name with
  | none => exact absurd rfl (lookN_none h q hq)
  | some r =>
    obtain ⟨h1, h2⟩ := lookN_some h
    rw [nodup_inj (f := fun q : Nd => q.2.name) hn r h1 q hq h2]
theorem NV.keep (h : NV w S v q) (hs : w.heap.size ≤ w'.heap.size) (hk : ∀ b, S b → b < w.heap.size → w'.heap[b]? = w.heap[b]?) : NV w' S v q := by
  obtain ⟨a, e, h1, h2, h3⟩ := h
  exact ⟨a, e, h1.keep hs hk, h2, h3⟩
theorem NV.mono (h : NV w S v q) (hS : ∀ b, S b → S' b) : NV w S' v q := by
  obtain ⟨a, e, h1, h2, h3⟩ := h
  exact ⟨a, e, h1.mono hS, h2, h3⟩
theorem MF.lt (h : MF w m S nl) : m < w.heap.size := h.choose_spec.1.lt
theorem MF.keep (h : MF w m S nl) (hs : w.heap.size ≤ w'.heap.size) (hm : w'.heap[m]? = w.heap[m]?) (hk : ∀ b, S b → b < w.heap.size → w'.heap[b]? = w.heap[b]?) (hS : ∀ b, S b → S' b) : MF w' m S' nl := by
  obtain ⟨g, h1, h2, h3, h4⟩ := h
  refine ⟨g, h1.keep hm, h2, h3, fun n q hq => ?_⟩
  obtain ⟨v, e, hv⟩ := h4 n q hq
  exact ⟨v, e, (hv.keep hs hk).mono hS⟩
theorem MF.empty (w : World) (S : Nat → Prop) : MF (w.alloc (.map #[] 0)) w.heap.size S [] := ⟨_, MT.made w, List.nodup_nil, fun _ _ => rfl, fun n q h => by cases h⟩
end
structure SA where
  sg : Nat
  lg : Nat
  m : Nat
  p : DA
def SA.has (a : SA) (x : Nat) : Prop := a.p.has x ∨ x = a.sg ∨ x = a.lg ∨ x = a.m
def OffS (a : SA) (w : World) (x : Nat) : Prop := x < w.heap.size ∧ ¬ a.has x
def stRow (a : SA) (c : CI) : Array Value := #[.pointer (some ⟨a.p.d, 0, none⟩), .pointer (some ⟨a.lg, 0, none⟩), .int .i64 c.log, .int .i64 c.files, .int .i64 c.slots, .int .i64 c.data, .map (some a.m)]
structure SN (a : SA) : Prop where
  ps : ¬ a.p.has a.sg
  pl : ¬ a.p.has a.lg
  pm : ¬ a.p.has a.m
  sl : a.sg ≠ a.lg
  sm : a.sg ≠ a.m
  lm : a.lg ≠ a.m
  pt : ¬ a.has 1
structure ST (w : World) (a : SA) (c : CI) (nl : List Nd) (s : Dk) (br : Bool) : Prop where
  kb : KB w a.sg 82 (stRow a c)
  lg : LG w a.lg a.p c.log.toNat br
  ds : DS w a.p s
  mf : MF w a.m (OffS a w) nl
  tab : Tab w
  sn : SN a
  may : c.may
  len : (s.safe.length : Int) = c.sum
  fit : ∀ q ∈ nl, q.1 < c.cn.files ∧ fitS q.2 c.data = true
  few : nl.length ≤ c.cn.files
section
variable {w w' : World} {a : SA} {c : CI} {nl : List Nd} {s : Dk} {br : Bool}
theorem ST.keep (h : ST w a c nl s br) (hs : w.heap.size ≤ w'.heap.size) (hk : ∀ b, b < w.heap.size → w'.heap[b]? = w.heap[b]?) : ST w' a c nl s br :=
  ⟨h.kb.keep (hk _ h.kb.lt), KB.keep h.lg (hk _ (KB.lt h.lg)), h.ds.keep fun x hx => hk x (h.ds.lt x hx), h.mf.keep hs (hk _ h.mf.lt) (fun b _ hb => hk b hb) fun b sb => ⟨Nat.lt_of_lt_of_le sb.1 hs, sb.2⟩,
    h.tab.keep hs (hk _ h.tab.1), h.sn, h.may, h.len, h.fit, h.few⟩
theorem ST.below (h : ST w a c nl s br) (hb : Below w.heap.size w w') : ST w' a c nl s br := h.keep hb.size fun b hlt => hb.block b hlt
theorem ST.drewN (h : ST w a c nl s br) (n : Nat) : ST (w.drewN n) a c nl s br := h.keep (Nat.le_refl _) fun _ _ => rfl
theorem ST.alloc (h : ST w a c nl s br) (o : Obj) : ST (w.alloc o) a c nl s br := h.below ((Below.refl _ w).alloc (Nat.le_refl _) o)
theorem ST.c0 (h : ST w a c nl s br) : w.cell? ⟨a.sg, 0, none⟩ = some (.pointer (some ⟨a.p.d, 0, none⟩)) := h.kb.cell 0
theorem ST.c1 (h : ST w a c nl s br) : w.cell? ⟨a.sg, 1, none⟩ = some (.pointer (some ⟨a.lg, 0, none⟩)) := h.kb.cell 1
theorem ST.c2 (h : ST w a c nl s br) : w.cell? ⟨a.sg, 2, none⟩ = some (.int .i64 c.log) := h.kb.cell 2
theorem ST.c3 (h : ST w a c nl s br) : w.cell? ⟨a.sg, 3, none⟩ = some (.int .i64 c.files) := h.kb.cell 3
theorem ST.c4 (h : ST w a c nl s br) : w.cell? ⟨a.sg, 4, none⟩ = some (.int .i64 c.slots) := h.kb.cell 4
theorem ST.c5 (h : ST w a c nl s br) : w.cell? ⟨a.sg, 5, none⟩ = some (.int .i64 c.data) := h.kb.cell 5
theorem ST.c6 (h : ST w a c nl s br) : w.cell? ⟨a.sg, 6, none⟩ = some (.map (some a.m)) := h.kb.cell 6
end
theorem smade_any {w : World} {a : SA} {c : CI} {nl : List Nd} {s : Dk} {br : Bool} (h : ST w a c nl s br) : Calls Tryz.prog 42 #[.pointer (some ⟨a.sg, 0, none⟩)] w fun e w' => e = .returned (.bool true) ∧ w = w' := by
  have q0 := h.c0
  go_enter Tryz.func42, Tryz.ntmps42
  go_wp2
  go_ret
  exact ⟨rfl, rfl⟩
theorem smade_nil (w : World) : Calls Tryz.prog 42 #[.pointer none] w fun e w' => e = .returned (.bool false) ∧ w = w' := by
  go_enter Tryz.func42, Tryz.ntmps42
  go_wp2
  go_ret
  exact ⟨rfl, rfl⟩
theorem zero_file (w : World) : (zeroValue 93).run Tryz.prog w = .ok nd0 w := by kernel_rfl
theorem MF.look_ok {w : World} {m : Nat} {S : Nat → Prop} {nl : List Nd} (h : MF w m S nl) {n : List UInt8} (hn : n.length ≤ maxLen) :
    (lookN nl n = none ∧ (Instr.lookup 80 (.map (some m)) (strV n) true).run Tryz.prog w = .ok (.tuple #[nd0, .bool false]) w) ∨
    ∃ q A cp, lookN nl n = some q ∧ IS w S (.slice A q.2.at_.length cp) q.2.at_ ∧ I64 q.2.size ∧ q.2.name = n ∧ q.1 ≤ 1000000 ∧ (Instr.lookup 80 (.map (some m)) (strV n) true).run Tryz.prog w = .ok (.tuple #[ndV q.1 q.2 (.slice A q.2.at_.length cp), .bool true]) w := by
  obtain ⟨g, h1, h2, h3, h4⟩ := h
  have hrun := h1.look_ok Tryz.underlying80 (zero_file w) hn
  cases hl : lookN nl n with
  | none =>
    rw [h3 n hl] at hrun
    exact .inl ⟨rfl, hrun⟩
  | some q =>
    obtain ⟨v, e, a, rfl, hv, hz, _, hq⟩ := h4 n q hl
    rw [e] at hrun
    obtain ⟨A, cp, rfl, _⟩ := hv.form
    exact .inr ⟨q, A, cp, rfl, hv, hz, (lookN_some hl).2, hq, hrun⟩
def putN (nl : List Nd) (q : Nd) : List Nd := nl.filter (fun r => decide (r.2.name ≠ q.2.name)) ++ [q]
def delN (nl : List Nd) (n : List UInt8) : List Nd := nl.filter fun r => decide (r.2.name ≠ n)
theorem look_del (nl : List Nd) (n m : List UInt8) : lookN (delN nl n) m = if m = n then none else lookN nl m := by
  unfold lookN delN
  rw [List.find?_filter]
  by_cases h : m = n
  · subst h
    rw [if_pos rfl, List.find?_eq_none]
    intro q _
    simp
  · rw [if_neg h]
    congr 1
    funext q
    by_cases e : q.2.name = m
    · simp [e, h]
    · simp [e]
theorem look_put (nl : List Nd) (q : Nd) (m : List UInt8) : lookN (putN nl q) m = if m = q.2.name then some q else lookN nl m := by
  unfold putN
  rw [show lookN (nl.filter (fun r => decide (r.2.name ≠ q.2.name)) ++ [q]) m = ((lookN (delN nl q.2.name) m).or (lookN [q] m)) from List.find?_append, look_del]
  by_cases h : m = q.2.name
  · rw [if_pos h, if_pos h, Option.none_or]
    unfold lookN
    simp [h]
  · rw [if_neg h, if_neg h]
    have : lookN [q] m = none := by
      unfold lookN
      simp
      exact fun e => h e.symm
    rw [this, Option.or_none]
theorem del_nodup {nl : List Nd} (h : (nl.map (·.2.name)).Nodup) (n : List UInt8) : ((delN nl n).map (·.2.name)).Nodup := h.sublist (List.Sublist.map _ List.filter_sublist)
theorem put_nodup {nl : List Nd} (h : (nl.map (·.2.name)).Nodup) (q : Nd) : ((putN nl q).map (·.2.name)).Nodup := by
  unfold putN
  rw [List.map_append, List.nodup_append]
  refine ⟨del_nodup h _, by simp, ?_⟩
  rintro a ha b hb rfl
  obtain ⟨r, hr, rfl⟩ := List.mem_map.1 ha
  have h1 := (List.mem_filter.1 hr).2
  have h2 : r.2.name = q.2.name := by simpa using hb
  simp [h2] at h1
theorem del_len {nl : List Nd} (h : (nl.map (·.2.name)).Nodup) (n : List UInt8) : (delN nl n).length = if (lookN nl n).isSome = true then nl.length - 1 else nl.length := by
  induction nl with
  | nil => rfl
  | cons q r ih =>
    rw [List.map_cons, List.nodup_cons] at h
    have ih := ih h.2
    unfold delN lookN at *
    rw [List.filter_cons, List.find?_cons]
    by_cases e : q.2.name = n
    · have hno : r.find? (fun q => decide (q.2.name = n)) = none := List.find?_eq_none.2 fun x hx => by
        simp only [decide_eq_true_eq]
        intro ex
        exact h.1 (List.mem_map.2 ⟨x, hx, by rw [ex, e]⟩)
      rw [hno] at ih
      simp [e] at ih ⊢
      exact ih
    · simp only [e, ne_eq, not_false_eq_true, decide_true, if_true, List.length_cons, decide_false]
      rw [ih]
      split
      · have : r ≠ [] := by
          rintro rfl
          simp at *
        have := List.length_pos_iff.2 this
        omega
      · rfl
theorem put_len {nl : List Nd} (h : (nl.map (·.2.name)).Nodup) (q : Nd) : (putN nl q).length = if (lookN nl q.2.name).isSome = true then nl.length else nl.length + 1 := by
  have := del_len h q.2.name
  unfold putN
  rw [List.length_append, show (nl.filter fun r => decide (r.2.name ≠ q.2.name)) = delN nl q.2.name from rfl, this]
  cases hl : lookN nl q.2.name with
  | none => rfl
  | some r =>
    have := List.length_pos_of_mem (lookN_some hl).1
    simp
    omega
theorem MF.put {w : World} {m : Nat} {S S' : Nat → Prop} {nl : List Nd} (h : MF w m S nl) (hk : nl.length < maxLen) {q : Nd} {v : Value} (hv : NV w S' v q) (hm : ¬ S m) (hm' : ¬ S' m) (hS : ∀ b, S b → S' b) :
    ∃ w', (Instr.mapUpdate 80 (.map (some m)) (strV q.2.name) v).run Tryz.prog w = .ok () w' ∧ MF w' m S' (putN nl q) ∧ w.grownBy w' (some m) := by
  obtain ⟨g, h1, h2, h3, h4⟩ := h
  obtain ⟨a, rfl, ha, hz, hn, hq⟩ := id hv
  obtain ⟨w', hrun, r1, r2⟩ := h1.put (t := 80) Tryz.underlying80 hk hn (ndV q.1 q.2 a)
  have hgs : (g q.2.name).isSome = (lookN nl q.2.name).isSome := by
    cases hl : lookN nl q.2.name with
    | none => rw [h3 _ hl]; rfl
    | some r => obtain ⟨v, e, _⟩ := h4 _ r hl; rw [e]; rfl
  refine ⟨w', hrun, ⟨updT g q.2.name (ndV q.1 q.2 a), ?_, put_nodup h2 q, fun n hno => ?_, fun n r hr => ?_⟩, r2⟩
  · rw [put_len h2 q, ← hgs]
    exact r1
  · rw [look_put] at hno
    unfold updT
    split at hno
    · cases hno
    · rw [if_neg (by assumption)]
      exact h3 n hno
  · rw [look_put] at hr
    unfold updT
    split at hr
    · rename_i e
      obtain rfl := Option.some.inj hr
      rw [if_pos e]
      exact ⟨_, rfl, hv.keep r2.size fun b sb hb => r2.block b hb fun e => hm' (by injection e with e; rwa [← e])⟩
    · rename_i e
      rw [if_neg e]
      obtain ⟨u, e1, e2⟩ := h4 n r hr
      exact ⟨u, e1, (e2.keep r2.size fun b sb hb => r2.block b hb fun e => hm (by injection e with e; rwa [← e])).mono hS⟩
theorem MF.del {w : World} {m : Nat} {S : Nat → Prop} {nl : List Nd} (h : MF w m S nl) {n : List UInt8} (hn : n.length ≤ maxLen) (hm : ¬ S m) (ty : TypeId) :
    ∃ w', (Builtin.delete_ #[80, 9] ty #[.map (some m), strV n]).run Tryz.prog w = .ok (.tuple #[]) w' ∧ MF w' m S (delN nl n) ∧ w.grownBy w' (some m) := by
  obtain ⟨g, h1, h2, h3, h4⟩ := h
  obtain ⟨w', hrun, r1, r2⟩ := h1.del Tryz.underlying80 hn ty
  have hgs : (g n).isSome = (lookN nl n).isSome := by
    cases hl : lookN nl n with
    | none => rw [h3 _ hl]; rfl
    | some r => obtain ⟨v, e, _⟩ := h4 _ r hl; rw [e]; rfl
  refine ⟨w', hrun, ⟨delT g n, ?_, del_nodup h2 n, fun j hno => ?_, fun j r hr => ?_⟩, r2⟩
  · rw [del_len h2 n, ← hgs]
    exact r1
  · rw [look_del] at hno
    unfold delT
    split at hno
    · rw [if_pos (by assumption)]
    · rw [if_neg (by assumption)]
      exact h3 j hno
  · rw [look_del] at hr
    unfold delT
    split at hr
    · cases hr
    · rename_i e
      rw [if_neg e]
      obtain ⟨u, e1, e2⟩ := h4 j r hr
      exact ⟨u, e1, e2.keep r2.size fun b sb hb => r2.block b hb fun e => hm (by injection e with e; rwa [← e])⟩
end
section
open Go.RowKit
theorem groups_any (n : Int) (hn : I64 n) (s : Int) (hs : 2 ≤ s) (w : World) :
    Calls Tryz.prog 112 #[.int .i64 n, .int .i64 s] w fun e w' => e = .returned (.int .i64 (if n < 1 then 0 else (n - 1) / s + 1)) ∧ w = w' := by
  obtain ⟨h1, h2⟩ := hn
  by_cases h : n < 1
  · rw [if_pos h]
    go_enter Tryz.func112, Tryz.ntmps112
    go_wp2
    go_ret
    exact ⟨rfl, rfl⟩
  · rw [if_neg h]
    have e1 : (n - 1).tdiv s = (n - 1) / s := Int.tdiv_eq_ediv_of_nonneg (by omega)
    have h3 : 0 ≤ (n - 1) / s := Int.ediv_nonneg (by omega) (by omega)
    have h4 : (n - 1) / s ≤ n - 1 := Int.ediv_le_self _ (by omega)
    go_enter Tryz.func112, Tryz.ntmps112
    go_wp2
    go_ret
    exact ⟨rfl, rfl⟩
theorem pow_bit (i : Nat) : (2 : Int) ^ (7 - i % 8) % 256 = ((2 ^ (7 - i % 8) : Nat) : Int) := by
  have h : 7 - i % 8 < 8 := by omega
  generalize 7 - i % 8 = r at *
  match r, h with
  | 0, _ | 1, _ | 2, _ | 3, _ | 4, _ | 5, _ | 6, _ | 7, _ => rfl
theorem bit_any (i : Nat) (hi : i ≤ 1000000) (w : World) :
    Calls Tryz.prog 167 #[.int .i64 (i : Int)] w fun e w' => e = .returned (.int .u8 ((2 ^ (7 - i % 8) : Nat) : Int)) ∧ w = w' := by
  go_enter Tryz.func167, Tryz.ntmps167
  go_wp2
  go_ret
  exact ⟨ret_int (pow_bit i), rfl⟩
theorem mayBe_any (n : Int) (w : World) :
    Calls Tryz.prog 166 #[.int .i64 n] w fun e w' => e = .returned (.bool (decide (0 ≤ n ∧ n ≤ 4096))) ∧ w = w' := by
  by_cases h : 0 ≤ n
  · have e : decide (0 ≤ n ∧ n ≤ 4096) = decide (n ≤ 4096) := by simp [h]
    rw [e]
    have D0 := decide_eq_true h
    go_enter Tryz.func166, Tryz.ntmps166
    go_wp2
    go_ret
    exact ⟨rfl, rfl⟩
  · have e : decide (0 ≤ n ∧ n ≤ 4096) = false := by simp [h]
    rw [e]
    have D0 := decide_eq_false h
    go_enter Tryz.func166, Tryz.ntmps166
    go_wp2
    go_ret
    exact ⟨rfl, rfl⟩
theorem pages_any (n : Int) (hn : I64 n) (w : World) :
    Calls Tryz.prog 74 #[.int .i64 n] w fun e w' => e = .returned (.int .i64 (pagesS n)) ∧ w = w' := by
  have hg := groups_any n hn 256 (by omega) w
  unfold pagesS
  generalize (if n < 1 then 0 else (n - 1) / 256 + 1) = r at *
  go_enter Tryz.func74, Tryz.ntmps74
  go_wp2_with (go_at_call 112; refine hg.mono ?_; rintro e w' ⟨rfl, rfl⟩)
  go_ret
  exact ⟨rfl, rfl⟩
def IntsAs (w : World) (r : List Int × Bool) (e : Ending) (w' : World) : Prop :=
  ∃ v, e = .returned (.tuple #[v, .bool r.2]) ∧ w'.ownsRow w.heap.size 3 1 v r.1.length (r.1.map iv) ∧ Below w.heap.size w w'
theorem ints_none (w w' : World) (h : Below w.heap.size w w') : IntsAs w ([], false) (.returned (.tuple #[.slice none 0 0, .bool false])) w' := ⟨_, rfl, World.ownsRow_nil _ _ _ _, h⟩
end
section
open Go.RowKit
theorem rpages_any (n : Int) (hn : I64 n) (w : World) :
    Calls Tryz.prog 38 #[.int .i64 n] w fun e w' => e = .returned (.int .i64 (pagesS n)) ∧ w = w' := by
  obtain ⟨h1, h2⟩ := hn
  unfold pagesS
  by_cases h : n < 1
  · rw [if_pos h]
    go_enter Tryz.func38, Tryz.ntmps38
    go_wp2
    go_ret
    exact ⟨rfl, rfl⟩
  · rw [if_neg h]
    have e1 : (n - 1).tdiv 256 = (n - 1) / 256 := Int.tdiv_eq_ediv_of_nonneg (by omega)
    go_enter Tryz.func38, Tryz.ntmps38
    go_wp2
    go_ret
    exact ⟨rfl, rfl⟩
end
section
open Go.RowKit Go.ChangeShapes Go.WideShapes Go.Joins
theorem cells_bool : Tryz.prog.cellsOf 4 = 1 := by kernel_rfl
theorem cells_i : Tryz.prog.cellsOf 3 = 1 := by kernel_rfl
theorem cells_bools : Tryz.prog.cellsOf 48 = 1 := by kernel_rfl
end
section
open Go.RowKit Go.ChangeShapes Go.WideShapes Go.Joins
def BO (w : World) (S : Nat → Prop) (v : Value) (l : List Bool) : Prop :=
  ∃ A c, v = .slice A l.length c ∧ l.length ≤ c ∧ c ≤ maxLen ∧
    (0 < l.length → ∃ b o, A = some ⟨b, o, none⟩ ∧ S b ∧ b < w.heap.size ∧ ∀ j z, l[j]? = some z → w.cell? ⟨b, o + j, none⟩ = some (.bool z))
section
variable {w w' : World} {S S' : Nat → Prop} {v : Value} {l : List Bool}
theorem BO.keep (h : BO w S v l) (hs : w.heap.size ≤ w'.heap.size) (hk : ∀ b, S b → b < w.heap.size → w'.heap[b]? = w.heap[b]?) : BO w' S v l := by
  obtain ⟨A, c, e, hl, hc, hx⟩ := h
  refine ⟨A, c, e, hl, hc, fun h0 => ?_⟩
  obtain ⟨b, o, ea, sb, hb, hx⟩ := hx h0
  exact ⟨b, o, ea, sb, by omega, fun j u hu => (World.cell?_of_block (w := w) (hk b sb hb)).trans (hx j u hu)⟩
theorem BO.mono (h : BO w S v l) (hs : ∀ b, S b → S' b) : BO w S' v l := by
  obtain ⟨A, c, e, hl, hc, hx⟩ := h
  refine ⟨A, c, e, hl, hc, fun h0 => ?_⟩
  obtain ⟨b, o, ea, sb, r⟩ := hx h0
  exact ⟨b, o, ea, hs b sb, r⟩
theorem BO.below' (h : BO w S v l) (hg : Below w.heap.size w w') : BO w' S v l := h.keep hg.size fun b _ hb => hg.block b hb
theorem BO.form (h : BO w S v l) : ∃ A c, v = .slice A l.length c ∧ l.length ≤ c ∧ c ≤ maxLen := by
  obtain ⟨A, c, e, hl, hc, hx⟩ := h
  exact ⟨A, c, e, hl, hc⟩
theorem BO.at_ {A : Option Addr} {n c : Nat} (h : BO w S (.slice A n c) l) (hp : 0 < l.length) :
    ∃ b o, A = some ⟨b, o, none⟩ ∧ S b ∧ b < w.heap.size ∧ ∀ j z, l[j]? = some z → w.cell? ⟨b, o + j, none⟩ = some (.bool z) := by
  obtain ⟨A', c', e, hl, hc, hx⟩ := h
  injection e with e1 e2 e3
  subst e1
  exact hx hp
end
end
section
open Go.RowKit
theorem count_any (S : Nat → Prop) (v : Value) (us : List Bool) (w : World) (h : BO w S v us) :
    Calls Tryz.prog 68 #[v] w fun e w' => e = .returned (.int .i64 (countS us : Int)) ∧ w = w' := by
  obtain ⟨A, c, rfl, hc, hcm⟩ := h.form
  have hlen : us.length ≤ 9223372036854775807 := by unfold maxLen at hcm; omega
  obtain ⟨R, hR⟩ : ∃ R, R = countS us := ⟨_, rfl⟩
  have HR : Hid ((selK (usedF us) us.length).length = R) := hR.symm
  rw [← hR]
  clear hR hc hcm
  go_enter Tryz.func68, Tryz.ntmps68
  go_wp2
  go_loopw [3, 8] (fun nv iw wr => ∃ k m : Nat, k ≤ us.length ∧ m ≤ k ∧ nv = .int .i64 m ∧ iw = .int .i64 k ∧ Hid ((selK (usedF us) k).length = m) ∧ wr = w) (fun _ iw _ => us.length - (intOf iw).toNat)
  case atStart => exact ⟨0, 0, by omega, by omega, rfl, rfl, rfl, rfl⟩
  case round =>
    obtain ⟨k, m, hk, hm, rfl, rfl, HS, rfl⟩ := hrel
    by_cases hlt : k < us.length
    · obtain ⟨b, o, rfl, _, _, h1⟩ := h.at_ (by omega)
      have hg : us[k]? = some us[k] := List.getElem?_eq_getElem hlt
      have k1 := h1 k _ hg
      have HG := Lib.hid hg
      clear h1 h hg
      generalize us[k] = u at *
      cases u with
      | true =>
        have HS2 : Hid ((selK (usedF us) (k + 1)).length = m + 1) := by
          show _ = _
          rw [selK_yes (by simp [usedF, HG.out]), List.length_append, HS.out]; rfl
        go_wp2
        go_roundw
        case rel => exact ⟨k + 1, m + 1, by omega, by omega, by go_num, by go_num, HS2, trivial⟩
        case measure => simp [intOf]; omega
      | false =>
        have HS2 : Hid ((selK (usedF us) (k + 1)).length = m) := by
          show _ = _
          rw [selK_no (by simp [usedF, HG.out])]; exact HS.out
        go_wp2
        go_roundw
        case rel => exact ⟨k + 1, m, by omega, by omega, by go_num, by go_num, HS2, trivial⟩
        case measure => simp [intOf]; omega
    · obtain rfl : k = us.length := by omega
      have hr := HR.out
      rw [HS.out] at hr
      subst hr
      clear HS HR
      go_wp2
      go_ret
      exact ⟨rfl, rfl⟩
theorem pick_neg (S : Nat → Prop) (v : Value) (us : List Bool) (n : Int) (hn : n < 0) (w : World) (h : BO w S v us) :
    Calls Tryz.prog 113 #[v, .int .i64 n] w (IntsAs w ([], false)) := by
  have hq := ints_none w w (Below.refl _ _)
  obtain ⟨A, c, rfl, hc, hcm⟩ := h.form
  have D0 := decide_eq_true hn
  clear h
  go_enter Tryz.func113, Tryz.ntmps113
  go_wp2
  go_ret2
  exact hq
theorem pick_few (S : Nat → Prop) (v : Value) (us : List Bool) (n : Int) (hn : ¬ n < 0) (hf : ((selK (freeF us) us.length).length : Int) < n) (w : World) (h : BO w S v us) :
    Calls Tryz.prog 113 #[v, .int .i64 n] w (IntsAs w ([], false)) := by
  have hq := ints_none w w (Below.refl _ _)
  have hct := count_any S v us w h
  have hfu := free_used us.length (Nat.le_refl _)
  have hcu : countS us = (selK (usedF us) us.length).length := rfl
  obtain ⟨A, c, rfl, hc, hcm⟩ := h.form
  have hlen : us.length ≤ 9223372036854775807 := by unfold maxLen at hcm; omega
  have D0 := decide_eq_false hn
  have D1 : decide ((us.length : Int) - (countS us : Int) < n) = true := decide_eq_true (by omega)
  have hcl : countS us ≤ us.length := by omega
  clear h hfu hcu hf hc hcm
  generalize countS us = q at *
  generalize us.length = m at *
  go_enter Tryz.func113, Tryz.ntmps113
  go_wp2_with (go_at_call 68; refine hct.mono ?_; rintro e w' ⟨rfl, rfl⟩)
  go_ret2
  exact hq
set_option maxHeartbeats 1000000 in
theorem pick_yes (v : Value) (us : List Bool) (n : Nat) (hf : n ≤ (selK (freeF us) us.length).length) (hsm : us.length ≤ 1000000000) (w : World) (h : BO w (fun b => b < w.heap.size) v us) :
    Calls Tryz.prog 113 #[v, .int .i64 (n : Int)] w (IntsAs w (ofN ((selK (freeF us) us.length).take n), true)) := by
  have hct := count_any _ v us w h
  have hfu := free_used us.length (Nat.le_refl _)
  have hcu : countS us = (selK (usedF us) us.length).length := rfl
  obtain ⟨A, c, rfl, hc, hcm⟩ := h.form
  have D0 : decide ((n : Int) < 0) = false := decide_eq_false (by omega)
  have D1 : decide ((us.length : Int) - (countS us : Int) < (n : Int)) = false := decide_eq_false (by omega)
  have hcl : countS us ≤ us.length := by omega
  have hnl : n ≤ us.length := by omega
  clear hfu hcu hc hcm hf
  generalize countS us = q at *
  obtain ⟨R, hR⟩ : ∃ R, R = ofN ((selK (freeF us) us.length).take n) := ⟨_, rfl⟩
  have HR : Hid (ofN ((selK (freeF us) us.length).take n) = R) := hR.symm
  rw [← hR]
  clear hR
  go_enter Tryz.func113, Tryz.ntmps113
  go_wp2_with (go_at_call 68; refine hct.mono ?_; rintro e w' ⟨rfl, rfl⟩)
  go_loopw [6, 21] (fun fv iw wr => ∃ (k : Nat) (L : List Int), k ≤ us.length ∧ iw = .int .i64 k ∧ L.length ≤ k ∧ Hid (ofN ((selK (freeF us) k).take n) = L) ∧ wr.ownsRow w.heap.size 3 1 fv L.length (L.map iv) ∧ Below w.heap.size w wr) (fun _ iw _ => us.length - (intOf iw).toNat)
  case atStart => exact ⟨0, [], by omega, rfl, by simp, by show _ = _; simp [selK_zero, ofN], World.ownsRow_nil _ _ _ _, Below.refl _ _⟩
  case round =>
    obtain ⟨k, L, hk, rfl, hL, HS, how, bl⟩ := hrel
    by_cases hlt : k < us.length
    · have hg : us[k]? = some us[k] := List.getElem?_eq_getElem hlt
      obtain ⟨b, o, rfl, hbs, hb, h1⟩ := (h.below' bl).at_ (by omega)
      have k1 := h1 k _ hg
      have HG := Lib.hid hg
      clear h1 hg hct
      generalize us[k] = u at *
      have hLn : L.length = ((selK (freeF us) k).take n).length := by rw [← HS.out, ofN_length]
      obtain ⟨A1, c1, rfl, _⟩ := (own_IS how).form
      cases u with
      | true =>
        have HS2 : Hid (ofN ((selK (freeF us) (k + 1)).take n) = L) := by
          show _ = _
          rw [selK_no (by simp [freeF, HG.out])]; exact HS.out
        by_cases hl : L.length < n
        · have D2 : decide ((L.length : Int) < (n : Int)) = true := decide_eq_true (by omega)
          clear hLn
          go_wp2
          go_roundw
          case rel => exact ⟨k + 1, L, by omega, by go_num, by omega, HS2, how, bl⟩
          case measure => simp [intOf]; omega
        · have D2 : decide ((L.length : Int) < (n : Int)) = false := decide_eq_false (by omega)
          clear hLn
          go_wp2
          go_roundw
          case rel => exact ⟨k + 1, L, by omega, by go_num, by omega, HS2, how, bl⟩
          case measure => simp [intOf]; omega
      | false =>
        by_cases hl : L.length < n
        · have HS2 : Hid (ofN ((selK (freeF us) (k + 1)).take n) = L ++ [(k : Int)]) := by
            show _ = _
            rw [selK_yes (by simp [freeF, HG.out]), take_more (by rw [← hLn]; exact hl), ofN_add, HS.out]; rfl
          have D2 : decide ((L.length : Int) < (n : Int)) = true := decide_eq_true (by omega)
          have how1 := own_past ((Below.refl wr.heap.size wr).alloc (Nat.le_refl _) (.cells #[.int .i64 (k : Int)] 3)) how
          have bl1 := bl.alloc bl.size (.cells #[.int .i64 (k : Int)] 3)
          have kx := (KB.new wr 3 #[.int .i64 (k : Int)]).cell 0
          have hll : L.length ≤ 1000000000 := by omega
          obtain ⟨L2, hL2⟩ : ∃ L2, L2 = L ++ [(k : Int)] := ⟨_, rfl⟩
          rw [← hL2] at HS2
          have hl2 : L2.length ≤ k + 1 := by rw [hL2, List.length_append]; simp; omega
          have HL2 := Lib.hid hL2.symm
          clear hLn how HS hL2
          go_wp2_with (at_builtin; refine wpList_grow1 _ rfl _ _ rfl w.heap.size _ L rfl how1 (k : Int) wr.heap.size 1 rfl kx hll bl1.size ?_; intro v2 w2 how2 g2 _; rw [HL2.out] at how2; have bl2 := bl1.grown g2 bl1.size (fun g e => own_ge how1 g e))
          go_roundw
          case rel => exact ⟨k + 1, L2, by omega, by go_num, hl2, HS2, how2, bl2⟩
          case measure => simp [intOf]; omega
        · have HS2 : Hid (ofN ((selK (freeF us) (k + 1)).take n) = L) := by
            show _ = _
            rw [selK_yes (by simp [freeF, HG.out]), take_full (by rw [← hLn]; exact hl)]; exact HS.out
          have D2 : decide ((L.length : Int) < (n : Int)) = false := decide_eq_false (by omega)
          clear hLn
          go_wp2
          go_roundw
          case rel => exact ⟨k + 1, L, by omega, by go_num, by omega, HS2, how, bl⟩
          case measure => simp [intOf]; omega
    · obtain rfl : k = us.length := by omega
      have hr := HR.out
      rw [HS.out] at hr
      subst hr
      clear HS HR
      go_wp2
      go_ret2
      exact ⟨_, rfl, how, bl⟩
theorem pick_any (v : Value) (us : List Bool) (n : Int) (hsm : us.length ≤ 1000000000) (w : World) (h : BO w (fun b => b < w.heap.size) v us) :
    Calls Tryz.prog 113 #[v, .int .i64 n] w (IntsAs w (pickS us n)) := by
  unfold pickS
  by_cases h0 : n < 0
  · rw [if_pos (.inl h0)]
    exact pick_neg _ v us n h0 w h
  · by_cases h1 : ((selK (freeF us) us.length).length : Int) < n
    · rw [if_pos (.inr h1)]
      exact pick_few _ v us n h0 h1 w h
    · rw [if_neg (fun h => h.elim h0 h1)]
      obtain ⟨k, rfl⟩ := Int.eq_ofNat_of_zero_le (by omega : 0 ≤ n)
      rw [Int.toNat_natCast]
      exact pick_yes v us k (by omega) hsm w h
end
end Go.Proofs.YteddmnoeljakpaaGreatDoor
