/-
  Mem: Own words for memory, over any program: a byte slice that reads as a list, a block that is known whole, a world of which one block alone has turned, and append onto a slice of the call's own. No condition; nothing of the dump is used here.
  Base: Small facts over the loaded program that several layers' texts use. No condition.
  ShaM: SHA-256 as plain mathematics over numbers: turns, the words of a block, a round, a block, a text. No condition; nothing of the dump is used here.
  ShaA: The small functions of sha, over the loaded program: RotateLeft32, turned, turn, word, putWord: each one's contract. No condition but the worlds' shapes that each contract names.
  Still: A region that draws its order and only reads and calls quietly, but for its last operations: over any program. No condition.
-/
import Derived.Below
import Derived.Laws.OwnMore
import Derived.Laws.Rows
import Derived.Deep.Draws
import Derived.Maps.AppendAt
import Derived.OwnWalk
import Derived.RegionTactic
import Derived.Lib.Hide
import Derived.Test.YteddmnoeljakpaaGreatDoorProg
import Derived.WalkKit
import Derived.Laws.BitsAllLaws
import Derived.IntWalk
import Derived.WalkSpells
import Derived.BigQuiet
import Derived.Deep.QuietTactic
import Derived.Laws.BitsAll
import Derived.StillTailTactics
set_option linter.unusedVariables false
set_option maxRecDepth 100000
namespace Go.Proofs.YteddmnoeljakpaaGreatDoor
section
open Go.RowKit
abbrev bv (b : UInt8) : Value := .int .u8 (b.toNat : Int)
def BS (w : World) (S : Nat → Prop) (v : Value) (l : List UInt8) : Prop :=
  ∃ A c, v = .slice A l.length c ∧ l.length ≤ c ∧ c ≤ maxLen ∧ (A = none → c = 0) ∧
    (0 < l.length → ∃ b o, A = some ⟨b, o, none⟩ ∧ S b ∧ b < w.heap.size ∧ ∀ j u, l[j]? = some u → w.cell? ⟨b, o + j, none⟩ = some (bv u))
section
variable {w w' : World} {S S' : Nat → Prop} {v : Value} {l : List UInt8}
theorem BS.nil (w : World) (S : Nat → Prop) : BS w S (.slice none 0 0) [] := ⟨none, 0, rfl, by simp, by simp [maxLen], fun _ => rfl, fun h => absurd h (by simp)⟩
theorem BS.keep (h : BS w S v l) (hs : w.heap.size ≤ w'.heap.size) (hk : ∀ b, S b → b < w.heap.size → w'.heap[b]? = w.heap[b]?) : BS w' S v l := by
  obtain ⟨A, c, e, hl, hc, hn, hx⟩ := h
  refine ⟨A, c, e, hl, hc, hn, fun h0 => ?_⟩
  obtain ⟨b, o, ea, sb, hb, hx⟩ := hx h0
  exact ⟨b, o, ea, sb, by omega, fun j u hu => (World.cell?_of_block (w := w) (hk b sb hb)).trans (hx j u hu)⟩
theorem BS.mono (h : BS w S v l) (hs : ∀ b, S b → S' b) : BS w S' v l := by
  obtain ⟨A, c, e, hl, hc, hn, hx⟩ := h
  refine ⟨A, c, e, hl, hc, hn, fun h0 => ?_⟩
  obtain ⟨b, o, ea, sb, r⟩ := hx h0
  exact ⟨b, o, ea, hs b sb, r⟩
theorem BS.lt (h : BS w S v l) : BS w (fun b => S b ∧ b < w.heap.size) v l := by
  obtain ⟨A, c, e, hl, hc, hn, hx⟩ := h
  refine ⟨A, c, e, hl, hc, hn, fun h0 => ?_⟩
  obtain ⟨b, o, ea, sb, hb, r⟩ := hx h0
  exact ⟨b, o, ea, ⟨sb, hb⟩, hb, r⟩
theorem BS.grown {row : Option Nat} (h : BS w S v l) (hg : w.grownBy w' row) (hr : ∀ g, row = some g → ¬ S g) : BS w' S v l :=
  h.keep hg.size fun b sb hb => hg.block b hb (fun e => hr b e.symm sb)
theorem BS.below {B : Nat} (h : BS w S v l) (hg : Below B w w') (hr : ∀ b, S b → b < B) : BS w' S v l :=
  h.keep hg.size fun b sb _ => hg.block b (hr b sb)
theorem BS.below' (h : BS w S v l) (hg : Below w.heap.size w w') : BS w' S v l :=
  h.keep hg.size fun b _ hb => hg.block b hb
theorem BS.alloc (h : BS w S v l) (o : Obj) : BS (w.alloc o) S v l :=
  h.keep (by simp) fun b _ hb => Below.heap_alloc w o b hb
theorem BS.setCell (h : BS w S v l) {p : Addr} (hp : ¬ S p.block) (u : Value) : BS (w.setCell p u) S v l :=
  h.keep (by simp [World.setCell]) fun b sb _ => Below.heap_setCell w p u b (fun e => hp (e ▸ sb))
theorem BS.drewN (h : BS w S v l) (n : Nat) : BS (w.drewN n) S v l := h
theorem BS.len (h : BS w S v l) : l.length ≤ maxLen := by
  obtain ⟨A, c, e, hl, hc, hn, hx⟩ := h
  exact Nat.le_trans hl hc
theorem BS.of_own {base e n : Nat} (h : w.ownsRow base e 1 v n (l.map bv)) : BS w (fun b => base ≤ b) v l := by
  obtain ⟨h1, h2⟩ := h
  have hn : n = l.length := by simpa using h1.symm
  subst hn
  rcases h2 with ⟨rfl, h0⟩ | ⟨g, cap, cur, rfl, hb, hg, hnc, hcm, hcs, htk⟩
  · obtain rfl : l = [] := List.eq_nil_of_length_eq_zero h0
    exact BS.nil w _
  · refine ⟨_, _, rfl, hnc, hcm, (fun h => by cases h), fun _ => ⟨g, 0, rfl, hb, (Array.getElem?_eq_some_iff.1 hg).1, fun j u hu => ?_⟩⟩
    rw [Nat.zero_add, cell_of_row w g j cur e (0, 0) hg]
    have : (l.map bv)[j]? = some (bv u) := by simp [hu]
    rw [← htk, List.getElem?_take] at this
    split at this
    · simpa using this
    · cases this
theorem BS.take {A : Option Addr} {n c : Nat} (h : BS w S (.slice A n c) l) (k : Nat) (hk : k ≤ l.length) : BS w S (.slice A k c) (l.take k) := by
  obtain ⟨A', c', e, hl, hc, hn, hx⟩ := h
  injection e with e1 e2 e3
  subst e1 e2 e3
  have hlen : (l.take k).length = k := by simp; omega
  refine ⟨A, c, by rw [hlen], by omega, hc, hn, fun h0 => ?_⟩
  obtain ⟨b, o, ea, sb, hb, hx⟩ := hx (by omega)
  exact ⟨b, o, ea, sb, hb, fun j u hu => hx j u (by
    rw [List.getElem?_take] at hu
    split at hu
    · exact hu
    · cases hu)⟩
theorem BS.drop {b o n c : Nat} (h : BS w S (.slice (some ⟨b, o, none⟩) n c) l) (k : Nat) (hk : k ≤ l.length) : BS w S (.slice (some (if c = k then ⟨b, o, none⟩ else ⟨b, o + k, none⟩)) (n - k) (c - k)) (l.drop k) := by
  obtain ⟨A', c', e, hl, hc, hn, hx⟩ := h
  injection e with e1 e2 e3
  subst e1 e2 e3
  refine ⟨some (if c = k then ⟨b, o, none⟩ else ⟨b, o + k, none⟩), c - k, by rw [List.length_drop], by rw [List.length_drop]; omega, by omega, (fun h => by cases h), fun h0 => ?_⟩
  rw [List.length_drop] at h0
  obtain ⟨b', o', ea, sb, hb, hx⟩ := hx (by omega)
  injection ea with ea
  injection ea with ea eo
  subst ea eo
  rw [if_neg (by omega)]
  refine ⟨b, o + k, rfl, sb, hb, fun j u hu => ?_⟩
  rw [Nat.add_assoc]
  exact hx (k + j) u (by rw [← hu, List.getElem?_drop])
theorem BS.at_ {A : Option Addr} {n c : Nat} (h : BS w S (.slice A n c) l) (hp : 0 < l.length) :
    ∃ b o, A = some ⟨b, o, none⟩ ∧ S b ∧ b < w.heap.size ∧ ∀ j u, l[j]? = some u → w.cell? ⟨b, o + j, none⟩ = some (.int .u8 (u.toNat : Int)) := by
  obtain ⟨A', c', e, hl, hc, hn, hx⟩ := h
  injection e with e1 e2 e3
  subst e1
  exact hx hp
theorem BS.form (h : BS w S v l) : ∃ A c, v = .slice A l.length c ∧ l.length ≤ c ∧ c ≤ maxLen ∧ (A = none → c = 0) := by
  obtain ⟨A, c, e, hl, hc, hn, hx⟩ := h
  exact ⟨A, c, e, hl, hc, hn⟩
theorem BS.news {b o c n : Nat} (h : BS w S (.slice (some ⟨b, o, none⟩) n c) l) : ∀ j u, (l.map bv)[j]? = some u → w.cell? ((⟨b, o, none⟩ : Addr).add j) = some u := by
  intro j u hu
  have hj : j < l.length := by
    have := (List.getElem?_eq_some_iff.1 hu).1
    simpa using this
  obtain ⟨b', o', ea, sb, hb, hx⟩ := h.at_ (by omega)
  injection ea with ea
  injection ea with ea eo
  subst ea eo
  rw [List.getElem?_map] at hu
  cases hl : l[j]? with
  | none => rw [hl] at hu; cases hu
  | some y =>
    rw [hl] at hu
    simp only [Option.map_some, Option.some.injEq] at hu
    subst hu
    rw [Addr.add_lit]
    exact hx j y hl
end
def KB (w : World) (g : Nat) (t : TypeId) (cs : Array Value) : Prop := w.heap[g]? = some (.cells cs t (0, 0))
section
variable {w w' : World} {g : Nat} {t : TypeId} {cs : Array Value}
theorem KB.lt (h : KB w g t cs) : g < w.heap.size := (Array.getElem?_eq_some_iff.1 h).1
theorem KB.cell (h : KB w g t cs) (i : Nat) : w.cell? ⟨g, i, none⟩ = cs[i]? := cell_of_row w g i cs t (0, 0) h
theorem KB.free (h : KB w g t cs) (i : Nat) : w.frozen? ⟨g, i, none⟩ = false := frozen_of_row w g i cs t h
theorem KB.keep (h : KB w g t cs) (hk : w'.heap[g]? = w.heap[g]?) : KB w' g t cs := hk.trans h
theorem KB.grown {row : Option Nat} (h : KB w g t cs) (hg : w.grownBy w' row) (hr : row ≠ some g) : KB w' g t cs := h.keep (hg.block g h.lt fun e => hr e.symm)
theorem KB.below {B : Nat} (h : KB w g t cs) (hg : Below B w w') (hr : g < B) : KB w' g t cs := h.keep (hg.block g hr)
theorem KB.alloc (h : KB w g t cs) (o : Obj) : KB (w.alloc o) g t cs := h.keep (Below.heap_alloc w o g h.lt)
theorem KB.new (w : World) (t : TypeId) (cs : Array Value) : KB (w.alloc (.cells cs t)) w.heap.size t cs := heap_alloc_new w _
theorem KB.put (h : KB w g t cs) (i : Nat) (u : Value) : KB (w.setCell ⟨g, i, none⟩ u) g t (cs.setIfInBounds i u) := by
  unfold KB at h ⊢
  simp [World.setCell, Array.getElem?_modify, h]
theorem KB.drewN (h : KB w g t cs) (n : Nat) : KB (w.drewN n) g t cs := h
end
theorem grown_of_below {w w' : World} (h : Below w.heap.size w w') (row : Option Nat) : w.grownBy w' row :=
  ⟨h.os, h.tape, h.output, h.size, fun k hk _ => h.block k hk⟩
theorem below_of_grown {w w' : World} (h : w.grownBy w' none) : Below w.heap.size w w' :=
  ⟨h.os, h.tape, h.output, h.size, fun k hk => h.block k hk (by simp)⟩
theorem below_of_grown' {w w' : World} {g B : Nat} (h : w.grownBy w' (some g)) (hg : B ≤ g) (hB : B ≤ w.heap.size) : Below B w w' :=
  ⟨h.os, h.tape, h.output, h.size, fun k hk => h.block k (by omega) (by simp; omega)⟩
theorem grown_trans {a b c : World} {row : Option Nat} (h : a.grownBy b row) (k : b.grownBy c row) : a.grownBy c row :=
  ⟨k.os.trans h.os, k.tape.trans h.tape, k.output.trans h.output, Nat.le_trans h.size k.size, fun i hi hr => (k.block i (Nat.lt_of_lt_of_le hi h.size) hr).trans (h.block i hi hr)⟩
theorem grown_set (w : World) (g i : Nat) (u : Value) : w.grownBy (w.setCell ⟨g, i, none⟩ u) (some g) :=
  ⟨rfl, rfl, rfl, by simp [World.setCell], fun k _ hr => Below.heap_setCell w _ u k (fun e => hr (by rw [e]))⟩
theorem Below_drawn {B : Nat} {a w : World} (h : Below B a w) (n : Nat) : Below B a (w.drewN n) := ⟨h.os, h.tape, h.output, h.size, h.block⟩
theorem own_past {w w' : World} {base e size n : Nat} {v : Value} {xs : List Value} (hg : Below w.heap.size w w') (h : w.ownsRow base e size v n xs) : w'.ownsRow base e size v n xs :=
  h.kept (grown_of_below hg none) (by cases v.ownBlock <;> simp)
theorem bytes_one (l : List UInt8) : ∀ u ∈ l.map bv, u.oneCell' = true := by
  intro u hu
  obtain ⟨b, _, rfl⟩ := List.mem_map.1 hu
  rfl
theorem run_grow {P : Program} (w : World) (base : Nat) (t ty e : TypeId) (i : TypeInfo) (ht : P.underlying t = some (.slice e)) (hi : P.info? e = some i) (hz : i.zero = some (.int .u8 0))
    (hsize : i.size = 1) (hby : i.bytes = 1) (v : Value) (xs : List UInt8) (hown : w.ownsRow base e 1 v xs.length (xs.map bv))
    (S : Nat → Prop) (x : Value) (ys : List UInt8) (hx : BS w S x ys) (hb : xs.length + ys.length ≤ 140737488355328) (hbase : base ≤ w.heap.size) :
    ∃ v' w', (Builtin.append_ #[t, t] ty #[v, x]).run P w = .ok v' w' ∧ w'.ownsRow base e 1 v' (xs ++ ys).length ((xs ++ ys).map bv) ∧ w.grownBy w' v.ownBlock ∧
      (v'.ownBlock = v.ownBlock ∨ v'.ownBlock = some w.heap.size) := by
  obtain ⟨A, c, rfl, hl, hc, hn, hcell⟩ := hx
  rcases A with _ | ad
  · obtain rfl := hn rfl
    have h0 : ys = [] := List.eq_nil_of_length_eq_zero (by omega)
    subst h0
    exact ⟨v, w, run_append_owned_none w base t ty e i 1 ht hi v _ _ hown, by simpa using hown, World.grownBy.refl w _, .inl rfl⟩
  · have hnews : ∀ j u, (ys.map bv)[j]? = some u → w.cell? (ad.add j) = some u := by
      intro j u hu
      have hj : 0 < ys.length := by
        have := (List.getElem?_eq_some_iff.1 hu).1
        simp at this
        omega
      obtain ⟨b, o, ea, _⟩ := hcell hj
      injection ea with ea
      subst ea
      exact BS.news (S := S) ⟨_, _, rfl, hl, hc, hn, hcell⟩ j u hu
    obtain ⟨v', w', h1, h2, h3, _, h5⟩ := run_append_own_at (P := P) w base t ty e i _ 1 1 ht hi hz hsize hby rfl (by omega) v xs.length _ hown ad ys.length c (ys.map bv) (by simp) hnews (bytes_one ys)
      (by unfold maxLen; omega) (by omega) hbase
    exact ⟨v', w', h1, by simpa using h2, h3, h5⟩
theorem wpList_grow {P : Program} (w : World) {ops : Array Oper} {rest : List Oper} {o : Oper} {a : Act} {Q : Exit → Act → World → Prop} (hgd : o.guard = none) (s x : Operand) (t : TypeId)
    (ho : o.op = .call { callee := .builtin .append, args := #[s, x], argTypes := #[t, t] })
    (base : Nat) (e : TypeId) (i : TypeInfo) (ht : P.underlying t = some (.slice e)) (hi : P.info? e = some i) (hz : i.zero = some (.int .u8 0))
    (hsize : i.size = 1) (hby : i.bytes = 1) (v : Value) (xs : List UInt8) (hs : a.eval s = v) (hown : w.ownsRow base e 1 v xs.length (xs.map bv))
    (S : Nat → Prop) (xv : Value) (ys : List UInt8) (hxe : a.eval x = xv) (hx : BS w S xv ys) (hb : xs.length + ys.length ≤ 140737488355328) (hbase : base ≤ w.heap.size)
    (h : ∀ v' w', w'.ownsRow base e 1 v' (xs ++ ys).length ((xs ++ ys).map bv) → w.grownBy w' v.ownBlock → (v'.ownBlock = v.ownBlock ∨ v'.ownBlock = some w.heap.size) → wpList P ops Q rest (a.put o.dst v') w') :
    wpList P ops Q (o :: rest) a w := by
  refine wpList_plain hgd fun K hK => ?_
  obtain ⟨v', w', hrun, h2, h3, h4⟩ := run_grow (P := P) w base t o.type e i ht hi hz hsize hby v xs hown S xv ys hx hb hbase
  unfold Oper.wp execOp
  simp only [ho, resolve, invoke, builtin, Sem.run_bind, Sem.run_pure, Result.andThen_ok, List.map_toArray, List.map_cons, List.map_nil, hs, hxe, hrun]
  exact hK _ _ (h v' w' h2 h3 h4)
def LS (w : World) (S : Nat → Prop) (v : Value) (ls : List (List UInt8)) : Prop :=
  ∃ A c, v = .slice A ls.length c ∧ ls.length ≤ c ∧ c ≤ maxLen ∧
    (0 < ls.length → ∃ b o, A = some ⟨b, o, none⟩ ∧ S b ∧ b < w.heap.size ∧ ∀ j l, ls[j]? = some l → ∃ x, w.cell? ⟨b, o + j, none⟩ = some x ∧ BS w S x l)
section
variable {w w' : World} {S S' : Nat → Prop} {v : Value} {ls : List (List UInt8)}
theorem LS.keep (h : LS w S v ls) (hs : w.heap.size ≤ w'.heap.size) (hk : ∀ b, S b → b < w.heap.size → w'.heap[b]? = w.heap[b]?) : LS w' S v ls := by
  obtain ⟨A, c, e, hl, hc, hx⟩ := h
  refine ⟨A, c, e, hl, hc, fun h0 => ?_⟩
  obtain ⟨b, o, ea, sb, hb, hx⟩ := hx h0
  refine ⟨b, o, ea, sb, by omega, fun j l hj => ?_⟩
  obtain ⟨x, h1, h2⟩ := hx j l hj
  exact ⟨x, (World.cell?_of_block (w := w) (hk b sb hb)).trans h1, h2.keep hs hk⟩
theorem LS.mono (h : LS w S v ls) (hs : ∀ b, S b → S' b) : LS w S' v ls := by
  obtain ⟨A, c, e, hl, hc, hx⟩ := h
  refine ⟨A, c, e, hl, hc, fun h0 => ?_⟩
  obtain ⟨b, o, ea, sb, hb, hx⟩ := hx h0
  refine ⟨b, o, ea, hs b sb, hb, fun j l hj => ?_⟩
  obtain ⟨x, h1, h2⟩ := hx j l hj
  exact ⟨x, h1, h2.mono hs⟩
theorem LS.below' (h : LS w S v ls) (hg : Below w.heap.size w w') : LS w' S v ls := h.keep hg.size fun b _ hb => hg.block b hb
theorem LS.form (h : LS w S v ls) : ∃ A c, v = .slice A ls.length c ∧ ls.length ≤ c ∧ c ≤ maxLen := by
  obtain ⟨A, c, e, hl, hc, hx⟩ := h
  exact ⟨A, c, e, hl, hc⟩
theorem LS.at_ {A : Option Addr} {n c : Nat} (h : LS w S (.slice A n c) ls) (hp : 0 < ls.length) :
    ∃ b o, A = some ⟨b, o, none⟩ ∧ S b ∧ b < w.heap.size ∧ ∀ j l, ls[j]? = some l → ∃ A' c', w.cell? ⟨b, o + j, none⟩ = some (.slice A' l.length c') ∧ BS w S (.slice A' l.length c') l := by
  obtain ⟨A', c', e, hl, hc, hx⟩ := h
  injection e with e1 e2 e3
  subst e1
  obtain ⟨b, o, ea, sb, hb, hx⟩ := hx hp
  refine ⟨b, o, ea, sb, hb, fun j l hj => ?_⟩
  obtain ⟨x, h1, h2⟩ := hx j l hj
  obtain ⟨A', c', rfl, _⟩ := h2.form
  exact ⟨A', c', h1, h2⟩
theorem LS.two {x y : Value} {l m : List UInt8} {t : TypeId} (hx : BS w S x l) (hy : BS w S y m) :
    LS (w.alloc (.cells #[x, y] t)) (fun b => S b ∨ b = w.heap.size) (.slice (some ⟨w.heap.size, 0, none⟩) 2 2) [l, m] := by
  refine ⟨_, 2, rfl, by simp, by simp [maxLen], fun _ => ⟨w.heap.size, 0, rfl, .inr rfl, by simp, fun j l' hj => ?_⟩⟩
  have hk := KB.new w t #[x, y]
  match j, hj with
  | 0, hj => simp at hj; subst hj; exact ⟨x, hk.cell 0, (hx.alloc _).mono fun b h => .inl h⟩
  | 1, hj => simp at hj; subst hj; exact ⟨y, hk.cell 1, (hy.alloc _).mono fun b h => .inl h⟩
theorem LS.three {x y z : Value} {l m n : List UInt8} {t : TypeId} (hx : BS w S x l) (hy : BS w S y m) (hz : BS w S z n) :
    LS (w.alloc (.cells #[x, y, z] t)) (fun b => S b ∨ b = w.heap.size) (.slice (some ⟨w.heap.size, 0, none⟩) 3 3) [l, m, n] := by
  refine ⟨_, 3, rfl, by simp, by simp [maxLen], fun _ => ⟨w.heap.size, 0, rfl, .inr rfl, by simp, fun j l' hj => ?_⟩⟩
  have hk := KB.new w t #[x, y, z]
  match j, hj with
  | 0, hj => simp at hj; subst hj; exact ⟨x, hk.cell 0, (hx.alloc _).mono fun b h => .inl h⟩
  | 1, hj => simp at hj; subst hj; exact ⟨y, hk.cell 1, (hy.alloc _).mono fun b h => .inl h⟩
  | 2, hj => simp at hj; subst hj; exact ⟨z, hk.cell 2, (hz.alloc _).mono fun b h => .inl h⟩
end
end
section
open Go.RowKit
theorem info_byte : (Tryz.prog.info? 5).map (fun i => (i.zero, i.size, i.bytes)) = some (some (.int .u8 0), 1, 1) := by kernel_rfl
theorem own_BS {w' : World} {v : Value} {l : List UInt8} {B : Nat} (h : w'.ownsRow B 5 1 v l.length (l.map bv)) : BS w' (fun b => B ≤ b ∧ b < w'.heap.size) v l := (BS.of_own h).lt
theorem drewN_twice (w : World) (n m : Nat) : (w.drewN n).drewN m = w.drewN (n + m) := by simp [World.drewN, Nat.add_assoc]
theorem ret_int {k : IntKind} {a b : Int} (h : a = b) : Ending.returned (.int k a) = .returned (.int k b) := by rw [h]
theorem own_base {w : World} {B B' e size n : Nat} {v : Value} {xs : List Value} (h : w.ownsRow B' e size v n xs) (hB : B ≤ B') : w.ownsRow B e size v n xs := by
  obtain ⟨h1, h2⟩ := h
  refine ⟨h1, ?_⟩
  rcases h2 with h2 | ⟨g, c, cur, a, b, r⟩
  · exact .inl h2
  · exact .inr ⟨g, c, cur, a, by omega, r⟩
def Fresh (w : World) (e : Ending) (w' : World) (l : List UInt8) : Prop :=
  ∃ v, e = .returned v ∧ w'.ownsRow w.heap.size 5 1 v l.length (l.map bv) ∧ Below w.heap.size w w'
end
section
open Go.RowKit
def rotr (x k : Nat) : Nat := (x >>> k) ||| ((x <<< (32 - k)) % 4294967296)
theorem rotr_lt (x k : Nat) (hx : x < 4294967296) : rotr x k < 4294967296 := by
  unfold rotr
  have h1 : x >>> k ≤ x := Nat.shiftRight_le x k
  exact Nat.or_lt_two_pow (n := 32) (by omega) (Nat.mod_lt _ (by decide))
def add32 (x y : Nat) : Nat := (x + y) % 4294967296
theorem add32_lt (x y : Nat) : add32 x y < 4294967296 := Nat.mod_lt _ (by decide)
theorem wrap_add32 (x y : Nat) : IntKind.u32.wrap ((x : Int) + (y : Int)) = (add32 x y : Nat) := by
  rw [IntKind.wrap_u32']; unfold add32; omega
def turn3 (x i j k : Nat) : Nat := rotr x i ^^^ rotr x j ^^^ rotr x k
theorem xor_lt {x y : Nat} (hx : x < 4294967296) (hy : y < 4294967296) : x ^^^ y < 4294967296 := Nat.xor_lt_two_pow (n := 32) hx hy
theorem and_lt {x y : Nat} (hx : x < 4294967296) : x &&& y < 4294967296 := Nat.lt_of_le_of_lt Nat.and_le_left hx
def sig0 (x : Nat) : Nat := rotr x 7 ^^^ rotr x 18 ^^^ x >>> 3
def sig1 (x : Nat) : Nat := rotr x 17 ^^^ rotr x 19 ^^^ x >>> 10
theorem shr_lt {x : Nat} (k : Nat) (hx : x < 4294967296) : x >>> k < 4294967296 := Nat.lt_of_le_of_lt (Nat.shiftRight_le x k) hx
def ch (e f g : Nat) : Nat := (e &&& f) ^^^ ((4294967295 ^^^ e) &&& g)
def maj (a b c : Nat) : Nat := (a &&& b) ^^^ (a &&& c) ^^^ (b &&& c)
def word4 (a b c d : UInt8) : Nat := a.toNat * 16777216 + b.toNat * 65536 + c.toNat * 256 + d.toNat
theorem word4_lt (a b c d : UInt8) : word4 a b c d < 4294967296 := by
  have := a.toNat_lt; have := b.toNat_lt; have := c.toNat_lt; have := d.toNat_lt
  unfold word4; omega
theorem rot_or (x s k : Nat) (hx : x < 4294967296) (hk : 1 ≤ k) (hk2 : k ≤ 31) (hs : s = 32 - k) :
    bits .or .u32 ((x : Int) * 2 ^ s % 4294967296) ((x : Int) / 2 ^ (32 - s)) = (rotr x k : Nat) := by
  have e1 : (x : Int) / 2 ^ (32 - s) = ((x >>> k : Nat) : Int) := by
    rw [show 32 - s = k from by omega, Nat.shiftRight_eq_div_pow]; simp
  have e2 : (x : Int) * 2 ^ s % 4294967296 = (((x <<< (32 - k)) % 4294967296 : Nat) : Int) := by
    rw [← hs, Nat.shiftLeft_eq]; simp
  rw [e1, e2, u32_or_nat _ _ (Nat.mod_lt _ (by decide)) (shr_lt _ hx), Nat.or_comm]
  rfl
theorem turn3_val (x i j k : Nat) (hx : x < 4294967296) :
    bits .xor .u32 (bits .xor .u32 (rotr x i : Nat) (rotr x j : Nat)) (rotr x k : Nat) = (turn3 x i j k : Nat) := by
  rw [u32_xor_nat _ _ (rotr_lt _ _ hx) (rotr_lt _ _ hx), u32_xor_nat _ _ (xor_lt (rotr_lt _ _ hx) (rotr_lt _ _ hx)) (rotr_lt _ _ hx)]
  rfl
def byteAt (x k : Nat) : UInt8 := UInt8.ofNat (x / 2 ^ k % 256)
theorem byteAt_val (x k : Nat) : (((byteAt x k).toNat : Nat) : Int) = (x : Int) / 2 ^ k % 256 := by
  unfold byteAt
  simp
def putW (l : List UInt8) (o x : Nat) : List UInt8 := (((l.set o (byteAt x 24)).set (o + 1) (byteAt x 16)).set (o + 2) (byteAt x 8)).set (o + 3) (byteAt x 0)
theorem putW_length (l : List UInt8) (o x : Nat) : (putW l o x).length = l.length := by simp [putW]
theorem sig0_val (x : Nat) (hx : x < 4294967296) : bits .xor .u32 (bits .xor .u32 (rotr x 7 : Nat) (rotr x 18 : Nat)) ((x : Int) / (8 : Int)) = ((sig0 x : Nat) : Int) := by
  have e : (x : Int) / (8 : Int) = ((x >>> 3 : Nat) : Int) := by rw [Nat.shiftRight_eq_div_pow]; simp
  rw [e, u32_xor_nat _ _ (rotr_lt _ _ hx) (rotr_lt _ _ hx), u32_xor_nat _ _ (xor_lt (rotr_lt _ _ hx) (rotr_lt _ _ hx)) (shr_lt _ hx)]
  rfl
theorem sig1_val (x : Nat) (hx : x < 4294967296) : bits .xor .u32 (bits .xor .u32 (rotr x 17 : Nat) (rotr x 19 : Nat)) ((x : Int) / (1024 : Int)) = ((sig1 x : Nat) : Int) := by
  have e : (x : Int) / (1024 : Int) = ((x >>> 10 : Nat) : Int) := by rw [Nat.shiftRight_eq_div_pow]; simp
  rw [e, u32_xor_nat _ _ (rotr_lt _ _ hx) (rotr_lt _ _ hx), u32_xor_nat _ _ (xor_lt (rotr_lt _ _ hx) (rotr_lt _ _ hx)) (shr_lt _ hx)]
  rfl
theorem add_val (x y : Nat) : ((x : Int) + (y : Int)) % 4294967296 = (add32 x y : Nat) := by unfold add32; omega
def nextW (b : List UInt8) (ws : List Nat) : Nat :=
  if ws.length < 16 then word4 (b.getD (4 * ws.length) 0) (b.getD (4 * ws.length + 1) 0) (b.getD (4 * ws.length + 2) 0) (b.getD (4 * ws.length + 3) 0)
  else add32 (add32 (add32 (sig1 (ws.getD (ws.length - 2) 0)) (ws.getD (ws.length - 7) 0)) (sig0 (ws.getD (ws.length - 15) 0))) (ws.getD (ws.length - 16) 0)
def stepW (b : List UInt8) (ws : List Nat) : List Nat := ws ++ [nextW b ws]
def wordsTo (b : List UInt8) : Nat → List Nat
  | 0 => []
  | t + 1 => stepW b (wordsTo b t)
theorem wordsTo_length (b : List UInt8) (t : Nat) : (wordsTo b t).length = t := by
  induction t with
  | zero => rfl
  | succ t ih => simp [wordsTo, stepW, ih]
theorem nextW_lt (b : List UInt8) (ws : List Nat) : nextW b ws < 4294967296 := by
  unfold nextW
  split
  · exact word4_lt _ _ _ _
  · exact add32_lt _ _
theorem wordsTo_lt (b : List UInt8) (t : Nat) : ∀ x ∈ wordsTo b t, x < 4294967296 := by
  induction t with
  | zero => simp [wordsTo]
  | succ t ih =>
    intro x hx
    simp only [wordsTo, stepW, List.mem_append, List.mem_singleton] at hx
    rcases hx with hx | rfl
    · exact ih x hx
    · exact nextW_lt _ _
theorem wordsTo_getD_lt (b : List UInt8) (t i : Nat) : (wordsTo b t).getD i 0 < 4294967296 := by
  rw [List.getD_eq_getElem?_getD]
  rcases h : (wordsTo b t)[i]? with _ | x
  · simp
  · exact wordsTo_lt b t x (List.mem_of_getElem? h)
theorem nextW_low (b : List UInt8) (t : Nat) (h : t < 16) : nextW b (wordsTo b t) = word4 (b.getD (4 * t) 0) (b.getD (4 * t + 1) 0) (b.getD (4 * t + 2) 0) (b.getD (4 * t + 3) 0) := by
  unfold nextW; rw [wordsTo_length, if_pos h]
theorem nextW_high (b : List UInt8) (t : Nat) (h : 16 ≤ t) : nextW b (wordsTo b t) =
    add32 (add32 (add32 (sig1 ((wordsTo b t).getD (t - 2) 0)) ((wordsTo b t).getD (t - 7) 0)) (sig0 ((wordsTo b t).getD (t - 15) 0))) ((wordsTo b t).getD (t - 16) 0) := by
  unfold nextW; rw [wordsTo_length, if_neg (by omega)]
abbrev wv (x : Nat) : Value := .int .u32 (x : Int)
def rowW (ws : List Nat) (n : Nat) : List Value := ws.map wv ++ List.replicate (n - ws.length) (wv 0)
theorem rowW_length (ws : List Nat) (n : Nat) (h : ws.length ≤ n) : (rowW ws n).length = n := by simp [rowW]; omega
theorem rowW_get (ws : List Nat) (n i : Nat) (h : i < ws.length) : (rowW ws n)[i]? = some (wv (ws.getD i 0)) := by
  unfold rowW
  rw [List.getElem?_append_left (by simpa using h)]
  simp [h]
theorem rowW_some (ws : List Nat) (n i : Nat) (h : i < n) : ∃ x, (rowW ws n)[i]? = some (wv x) := by
  by_cases h1 : i < ws.length
  · exact ⟨_, rowW_get ws n i h1⟩
  · refine ⟨0, ?_⟩
    unfold rowW
    rw [List.getElem?_append_right (by simp; omega), List.getElem?_replicate, if_pos (by simp; omega)]
theorem rowW_set (ws : List Nat) (n x : Nat) (h : ws.length < n) : (rowW ws n).set ws.length (wv x) = rowW (ws ++ [x]) n := by
  unfold rowW
  obtain ⟨m, hm⟩ : ∃ m, n - ws.length = m + 1 := ⟨n - ws.length - 1, by omega⟩
  rw [List.set_append_right _ _ (by simp), hm, show n - (ws ++ [x]).length = m from by simp; omega]
  simp [List.replicate_succ]
theorem rowW_full (ws : List Nat) (n : Nat) (h : ws.length = n) : rowW ws n = ws.map wv := by simp [rowW, h]
structure S8 where
  a : Nat
  b : Nat
  c : Nat
  d : Nat
  e : Nat
  f : Nat
  g : Nat
  h : Nat
structure S8.Ok (s : S8) : Prop where
  a : s.a < 4294967296
  b : s.b < 4294967296
  c : s.c < 4294967296
  d : s.d < 4294967296
  e : s.e < 4294967296
  f : s.f < 4294967296
  g : s.g < 4294967296
  h : s.h < 4294967296
def S8.vals (s : S8) : List Value := [wv s.a, wv s.b, wv s.c, wv s.d, wv s.e, wv s.f, wv s.g, wv s.h]
def tOne (k w : Nat) (s : S8) : Nat := add32 (add32 (add32 (add32 s.h (turn3 s.e 6 11 25)) (ch s.e s.f s.g)) k) w
def tTwo (s : S8) : Nat := add32 (turn3 s.a 2 13 22) (maj s.a s.b s.c)
def round8 (k w : Nat) (s : S8) : S8 := ⟨add32 (tOne k w s) (tTwo s), s.a, s.b, s.c, add32 s.d (tOne k w s), s.e, s.f, s.g⟩
def keysL : List Nat := [1116352408, 1899447441, 3049323471, 3921009573, 961987163, 1508970993, 2453635748, 2870763221, 3624381080, 310598401, 607225278, 1426881987, 1925078388, 2162078206, 2614888103, 3248222580, 3835390401, 4022224774, 264347078, 604807628, 770255983, 1249150122, 1555081692, 1996064986, 2554220882, 2821834349, 2952996808, 3210313671, 3336571891, 3584528711, 113926993, 338241895, 666307205, 773529912, 1294757372, 1396182291, 1695183700, 1986661051, 2177026350, 2456956037, 2730485921, 2820302411, 3259730800, 3345764771, 3516065817, 3600352804, 4094571909, 275423344, 430227734, 506948616, 659060556, 883997877, 958139571, 1322822218, 1537002063, 1747873779, 1955562222, 2024104815, 2227730452, 2361852424, 2428436474, 2756734187, 3204031479, 3329325298]
theorem keysL_length : keysL.length = 64 := rfl
def roundsTo (ws : List Nat) (s : S8) : Nat → S8
  | 0 => s
  | t + 1 => round8 (keysL.getD t 0) (ws.getD t 0) (roundsTo ws s t)
def S8.plus (s v : S8) : S8 := ⟨add32 s.a v.a, add32 s.b v.b, add32 s.c v.c, add32 s.d v.d, add32 s.e v.e, add32 s.f v.f, add32 s.g v.g, add32 s.h v.h⟩
def block8 (s : S8) (l : List UInt8) : S8 := s.plus (roundsTo (wordsTo l 64) s 64)
theorem plus_ok (s v : S8) : (s.plus v).Ok := ⟨add32_lt _ _, add32_lt _ _, add32_lt _ _, add32_lt _ _, add32_lt _ _, add32_lt _ _, add32_lt _ _, add32_lt _ _⟩
theorem block8_ok (s : S8) (l : List UInt8) : (block8 s l).Ok := plus_ok _ _
theorem round8_ok {s : S8} (h : s.Ok) (k w : Nat) : (round8 k w s).Ok := ⟨add32_lt _ _, h.a, h.b, h.c, add32_lt _ _, h.e, h.f, h.g⟩
theorem ch_val {e f g : Nat} (he : e < 4294967296) (hf : f < 4294967296) (hg : g < 4294967296) :
    bits .xor .u32 (bits .and .u32 (e : Int) (f : Int)) (bits .and .u32 (bits .xor .u32 IntKind.u32.max (e : Int)) (g : Int)) = ((ch e f g : Nat) : Int) := by
  have em : IntKind.u32.max = ((4294967295 : Nat) : Int) := by decide
  rw [em, u32_and_nat _ _ he hf, u32_xor_nat _ _ (by decide) he, u32_and_nat _ _ (xor_lt (by decide) he) hg, u32_xor_nat _ _ (and_lt he) (and_lt (xor_lt (by decide) he))]
  rfl
theorem maj_val {a b c : Nat} (ha : a < 4294967296) (hb : b < 4294967296) (hc : c < 4294967296) :
    bits .xor .u32 (bits .xor .u32 (bits .and .u32 (a : Int) (b : Int)) (bits .and .u32 (a : Int) (c : Int))) (bits .and .u32 (b : Int) (c : Int)) = ((maj a b c : Nat) : Int) := by
  rw [u32_and_nat _ _ ha hb, u32_and_nat _ _ ha hc, u32_and_nat _ _ hb hc, u32_xor_nat _ _ (and_lt ha) (and_lt ha), u32_xor_nat _ _ (xor_lt (and_lt ha) (and_lt ha)) (and_lt hb)]
  rfl
theorem tOne_val {v : S8} (ok : v.Ok) (kk ww : Nat) :
    ((v.h : Int) + ((turn3 v.e 6 11 25 : Nat) : Int) + bits .xor .u32 (bits .and .u32 (v.e : Int) (v.f : Int)) (bits .and .u32 (bits .xor .u32 IntKind.u32.max (v.e : Int)) (v.g : Int)) + (kk : Int) + (ww : Int)) % 4294967296 = ((tOne kk ww v : Nat) : Int) := by
  rw [ch_val ok.e ok.f ok.g]
  unfold tOne add32
  omega
theorem tTwo_val {v : S8} (ok : v.Ok) :
    (((turn3 v.a 2 13 22 : Nat) : Int) + bits .xor .u32 (bits .xor .u32 (bits .and .u32 (v.a : Int) (v.b : Int)) (bits .and .u32 (v.a : Int) (v.c : Int))) (bits .and .u32 (v.b : Int) (v.c : Int))) % 4294967296 = ((tTwo v : Nat) : Int) := by
  rw [maj_val ok.a ok.b ok.c]
  unfold tTwo add32
  omega
def mixV (s v : S8) (k : Nat) : List Value :=
  [wv (if 0 < k then add32 s.a v.a else s.a), wv (if 1 < k then add32 s.b v.b else s.b), wv (if 2 < k then add32 s.c v.c else s.c), wv (if 3 < k then add32 s.d v.d else s.d),
   wv (if 4 < k then add32 s.e v.e else s.e), wv (if 5 < k then add32 s.f v.f else s.f), wv (if 6 < k then add32 s.g v.g else s.g), wv (if 7 < k then add32 s.h v.h else s.h)]
theorem mixV_eight (s v : S8) : mixV s v 8 = (s.plus v).vals := rfl
theorem mixV_step (s v : S8) (k : Nat) (h : k < 8) : ∃ x y : Nat, (mixV s v k)[k]? = some (wv x) ∧ v.vals[k]? = some (wv y) ∧ (mixV s v k).set k (wv (add32 x y)) = mixV s v (k + 1) := by
  match k, h with
  | 0, _ => exact ⟨_, _, rfl, rfl, rfl⟩
  | 1, _ => exact ⟨_, _, rfl, rfl, rfl⟩
  | 2, _ => exact ⟨_, _, rfl, rfl, rfl⟩
  | 3, _ => exact ⟨_, _, rfl, rfl, rfl⟩
  | 4, _ => exact ⟨_, _, rfl, rfl, rfl⟩
  | 5, _ => exact ⟨_, _, rfl, rfl, rfl⟩
  | 6, _ => exact ⟨_, _, rfl, rfl, rfl⟩
  | 7, _ => exact ⟨_, _, rfl, rfl, rfl⟩
theorem vals_length (s : S8) : s.vals.length = 8 := rfl
theorem vals_one (s : S8) : ∀ u ∈ s.vals, u.oneCell' = true := by
  intro u hu
  simp only [S8.vals, List.mem_cons, List.not_mem_nil, or_false] at hu
  rcases hu with rfl | rfl | rfl | rfl | rfl | rfl | rfl | rfl <;> rfl
theorem word4_val (a b c d : UInt8) :
    bits .or .u32 (bits .or .u32 (bits .or .u32 ((a.toNat : Int) % 4294967296 * 16777216 % 4294967296) ((b.toNat : Int) % 4294967296 * 65536 % 4294967296)) ((c.toNat : Int) % 4294967296 * 256 % 4294967296)) ((d.toNat : Int) % 4294967296) = (word4 a b c d : Nat) := by
  unfold word4
  have ha := a.toNat_lt
  have hb := b.toNat_lt
  have hc := c.toNat_lt
  have hd := d.toNat_lt
  generalize a.toNat = A at *
  generalize b.toNat = B at *
  generalize c.toNat = C at *
  generalize d.toNat = D at *
  rw [show (A : Int) % 4294967296 * 16777216 % 4294967296 = ((A * 16777216 : Nat) : Int) from by omega, show (B : Int) % 4294967296 * 65536 % 4294967296 = ((B * 65536 : Nat) : Int) from by omega,
    show (C : Int) % 4294967296 * 256 % 4294967296 = ((C * 256 : Nat) : Int) from by omega, show (D : Int) % 4294967296 = ((D : Nat) : Int) from by omega]
  rw [u32_or_nat _ _ (by omega) (by omega), nat_join 24 _ _ (by omega) (by omega), u32_or_nat _ _ (by omega) (by omega), nat_join 16 _ _ (by omega) (by omega), u32_or_nat _ _ (by omega) (by omega), nat_join 8 _ _ (by omega) (by omega)]
end
section
open Go.RowKit
theorem left_and (k : Nat) (n : Int) (hn : n = -(k : Int)) (hk : 1 ≤ k) (hk2 : k ≤ 31) : bits .and .u64 (IntKind.u64.wrap n) 31 = ((32 - k : Nat) : Int) := by
  have e : IntKind.u64.wrap n = ((18446744073709551616 - k : Nat) : Int) := by
    rw [hn]; simp [IntKind.wrap, IntKind.bits, IntKind.signed]; omega
  rw [e, show (31 : Int) = ((31 : Nat) : Int) from rfl, u64_and_nat _ _ (by omega) (by omega), nat_mask5]
  omega
theorem KB.byte {w : World} {g : Nat} {ty : TypeId} {l : List UInt8} (h : KB w g ty (l.map bv).toArray) {j : Nat} (hj : j < l.length) : w.cell? ⟨g, j, none⟩ = some (bv l[j]) := by
  rw [h.cell, List.getElem?_toArray, List.getElem?_map, List.getElem?_eq_getElem hj]; rfl
theorem KB.set {w : World} {g : Nat} {ty : TypeId} {l : List UInt8} (h : KB w g ty (l.map bv).toArray) (j : Nat) (u : UInt8) : KB (w.setCell ⟨g, j, none⟩ (bv u)) g ty ((l.set j u).map bv).toArray := by
  have := h.put j (bv u)
  simpa using this
theorem rot_any (x k : Nat) (n : Int) (hn : n = -(k : Int)) (hx : x < 4294967296) (hk : 1 ≤ k) (hk2 : k ≤ 31) (w : World) :
    Calls Tryz.prog 215 #[.int .u32 x, .int .i64 n] w fun e w' => e = .returned (.int .u32 (rotr x k : Nat)) ∧ w = w' := by
  have hb := left_and k n hn hk hk2
  obtain ⟨s, hs⟩ : ∃ s, s = 32 - k := ⟨_, rfl⟩
  rw [← hs] at hb
  have HR := Lib.hid (rot_or x s k hx hk hk2 hs)
  have s1 : 1 ≤ s := by omega
  have s2 : s ≤ 31 := by omega
  clear hn hs hk hk2
  go_enter Tryz.func215, Tryz.ntmps215
  go_wp2
  go_ret
  exact ⟨ret_int HR.out, rfl⟩
theorem turned_any (x i j k : Nat) (hx : x < 4294967296) (hi : 1 ≤ i) (hi2 : i ≤ 31) (hj : 1 ≤ j) (hj2 : j ≤ 31) (hk : 1 ≤ k) (hk2 : k ≤ 31) (a b c : Int) (ha : a = i) (hb : b = j) (hc : c = k) (w : World) :
    Calls Tryz.prog 209 #[.int .u32 x, .int .i64 a, .int .i64 b, .int .i64 c] w fun e w' => e = .returned (.int .u32 (turn3 x i j k : Nat)) ∧ w = w' := by
  subst ha hb hc
  go_enter Tryz.func209, Tryz.ntmps209
  go_wp2_with fail
  refine (rot_any x i _ rfl hx hi hi2 _).mono ?_
  rintro e w' ⟨rfl, rfl⟩
  go_wp2_with fail
  refine (rot_any x j _ rfl hx hj hj2 _).mono ?_
  rintro e w' ⟨rfl, rfl⟩
  go_wp2_with fail
  refine (rot_any x k _ rfl hx hk hk2 _).mono ?_
  rintro e w' ⟨rfl, rfl⟩
  go_wp2
  go_ret
  exact ⟨ret_int (turn3_val x i j k hx), rfl⟩
theorem word_any (S : Nat → Prop) (v : Value) (l : List UInt8) (a b c d : UInt8) (t : List UInt8) (hl : l = a :: b :: c :: d :: t) (w : World) (h : BS w S v l) :
    Calls Tryz.prog 214 #[v] w fun e w' => e = .returned (.int .u32 (word4 a b c d : Nat)) ∧ ∃ n, w' = w.drewN n := by
  subst hl
  obtain ⟨A, cp, rfl, hc⟩ := h.form
  obtain ⟨g, o, rfl, _, _, hx⟩ := h.at_ (by simp)
  have k0 : w.cell? ⟨g, o, none⟩ = some (.int .u8 (a.toNat : Int)) := hx 0 a rfl
  have k1 : w.cell? ⟨g, o + 1, none⟩ = some (.int .u8 (b.toNat : Int)) := hx 1 b rfl
  have k2 : w.cell? ⟨g, o + 2, none⟩ = some (.int .u8 (c.toNat : Int)) := hx 2 c rfl
  have k3 : w.cell? ⟨g, o + 3, none⟩ = some (.int .u8 (d.toNat : Int)) := hx 3 d rfl
  clear hx h hc
  go_enter Tryz.func214, Tryz.ntmps214
  go_wp2
  go_quiet (fail)
  go_wp2
  go_ret
  exact ⟨ret_int (word4_val a b c d), _, rfl⟩
theorem bv24 (x : Nat) : Value.int .u8 ((x : Int) / 16777216 % 256) = bv (byteAt x 24) := by simp [bv, byteAt_val]
theorem bv16 (x : Nat) : Value.int .u8 ((x : Int) / 65536 % 256) = bv (byteAt x 16) := by simp [bv, byteAt_val]
theorem bv8 (x : Nat) : Value.int .u8 ((x : Int) / 256 % 256) = bv (byteAt x 8) := by simp [bv, byteAt_val]
theorem bv0 (x : Nat) : Value.int .u8 ((x : Int) % 256) = bv (byteAt x 0) := by simp [bv, byteAt_val]
set_option maxHeartbeats 2000000 in
theorem putWord_any (g : Nat) (ty : TypeId) (l : List UInt8) (o n c x : Nat) (hn : 4 ≤ n) (ho : o + 4 ≤ l.length) (w : World) (h : KB w g ty (l.map bv).toArray) :
    Calls Tryz.prog 196 #[.slice (some ⟨g, o, none⟩) n c, .int .u32 x] w fun e w' => e = .returned (.tuple #[]) ∧ KB w' g ty ((putW l o x).map bv).toArray ∧ w.grownBy w' (some g) := by
  have k0 : w.cell? ⟨g, o, none⟩ = some (bv (l[o]'(by omega))) := h.byte (by omega)
  have k1 : w.cell? ⟨g, o + 1, none⟩ = some (bv (l[o + 1]'(by omega))) := h.byte (by omega)
  have k2 : w.cell? ⟨g, o + 2, none⟩ = some (bv (l[o + 2]'(by omega))) := h.byte (by omega)
  have k3 : w.cell? ⟨g, o + 3, none⟩ = some (bv (l[o + 3]'(by omega))) := h.byte (by omega)
  have f0 := h.free o
  have f1 := h.free (o + 1)
  have f2 := h.free (o + 2)
  have f3 := h.free (o + 3)
  go_enter Tryz.func196, Tryz.ntmps196
  go_wp2
  go_end0
  rw [bv24, bv16, bv8, bv0]
  have h4 : KB _ g ty ((putW l o x).map bv).toArray := (((h.set o (byteAt x 24)).set (o + 1) (byteAt x 16)).set (o + 2) (byteAt x 8)).set (o + 3) (byteAt x 0)
  exact ⟨rfl, h4, grown_trans (grown_trans (grown_trans (grown_set _ _ _ _) (grown_set _ _ _ _)) (grown_set _ _ _ _)) (grown_set _ _ _ _)⟩
end
section
theorem wp_still_tail {P : Program} {id : Nat} {Q : Exit → Act → World → Prop} {a : Act} {w : World} {l : List Oper} (n : Nat) (hm : P.follows .mixedOrders = true) (hB : Region.lexTailB .any l.toArray n = true)
    (R : World → Prop) (hR : R w.drew) (h : ∀ w2, R w2 → wpStill P l.toArray w2 (fun a' => wpList P l.toArray Q (l.drop n) a' w2) (l.take n) a) : (Code.region id l.toArray true).wp P Q a w :=
  wp_region_still_tail n hm hB (h w.drew hR)
theorem wpStill_op {P : Program} {ops : Array Oper} {w : World} {Q : Act → Prop} {a : Act} {o : Oper} {rest : List Oper} (hg : o.guard = none) {v : Value} (hrun : (execOp a.eval o).run P w = .ok (.value v) w) (k : wpStill P ops w Q rest (a.put o.dst v)) : wpStill P ops w Q (o :: rest) a := by
  refine wpStill_step fun K hK => ?_
  rw [if_pos (by simp [Region.wanted, hg])]
  unfold Oper.still
  rw [hrun, Oper.stillUpon_value]
  exact hK _ k
theorem wpStill_load {P : Program} {ops : Array Oper} {w : World} {Q : Act → Prop} {a : Act} {o : Oper} {rest : List Oper} (hg : o.guard = none) (ty : TypeId) (x : Operand) (ho : o.op = .load ty x) {v y : Value} (hx : a.eval x = y) (hrun : (Instr.loadAt ty y).run P w = .ok v w)
    (k : wpStill P ops w Q rest (a.put o.dst v)) : wpStill P ops w Q (o :: rest) a := by
  refine wpStill_op hg ?_ k
  unfold execOp
  simp only [ho, hx, Sem.run_bind, hrun, Result.andThen_ok, Sem.run_pure]
theorem wpStill_look {P : Program} {ops : Array Oper} {w : World} {Q : Act → Prop} {a : Act} {o : Oper} {rest : List Oper} (hg : o.guard = none) (ty : TypeId) (x y : Operand) (ok : Bool) (ho : o.op = .lookup ty x y ok) {v m k : Value} (hx : a.eval x = m) (hy : a.eval y = k) (hrun : (Instr.lookup ty m k ok).run P w = .ok v w)
    (h : wpStill P ops w Q rest (a.put o.dst v)) : wpStill P ops w Q (o :: rest) a := by
  refine wpStill_op hg ?_ h
  unfold execOp
  simp only [ho, hx, hy, Sem.run_bind, hrun, Result.andThen_ok, Sem.run_pure]
end
end Go.Proofs.YteddmnoeljakpaaGreatDoor
