/-
  Mem: Own words for memory, over any program: a byte slice that reads as a list, a block that is known whole, a world of which one block alone has turned, and append onto a slice of the call's own. No condition; nothing of the dump is used here.
  TlvM: The plain mathematics of tlv: what bytes a number has, what number bytes have, what a reader answers. No condition; nothing of the dump is used here.
  NamM: Which names may be: plain (layer 12's P12.1). No condition; nothing of the dump is used here. (Taken out of InM.)
  ScM: Plain mathematics of layer 20 (scope): scopes as trees at most f deep; which may be, which records they match, their bytes, how they are read; there and back (P20.4), and not of and, or (P20.5). No program. No condition.
  ScP: Plain mathematics of layer 20 (scope): there and back (P20.4): what was read has the bytes that it was read of; a scope that may be is read of its own bytes, whatever stands behind. No program. No condition.
-/
import Derived.Below
import Derived.Laws.OwnMore
import Derived.Laws.Rows
import Derived.Deep.Draws
import Derived.Maps.AppendAt
import Derived.OwnWalk
import Derived.RegionTactic
import Derived.Lib.Hide
set_option linter.unusedVariables false
set_option maxRecDepth 100000
namespace Go.Proofs.YtpeopkjmmmodpaaDoor
section
open Go.RowKit
abbrev bv (b : UInt8) : Value := .int .u8 (b.toNat : Int)
def BS (w : World) (S : Nat → Prop) (v : Value) (l : List UInt8) : Prop :=
  ∃ A c, v = .slice A l.length c ∧ l.length ≤ c ∧ c ≤ maxLen ∧ (A = none → c = 0) ∧
    (0 < l.length → ∃ b o, A = some ⟨b, o, none⟩ ∧ S b ∧ b < w.heap.size ∧ ∀ j u, l[j]? = some u → w.cell? ⟨b, o + j, none⟩ = some (bv u))
section
variable {w w' : World} {S S' : Nat → Prop} {v : Value} {l : List UInt8}
theorem BS.nil (w : World) (S : Nat → Prop) : BS w S (.slice none 0 0) [] := ⟨none, 0, rfl, by simp, by simp [maxLen], fun _ => rfl, fun h => absurd h (by simp)⟩
theorem BS.keep (h : BS w S v l) (hs : w.heap.size ≤ w'.heap.size) (hk : ∀ b, S b → b < w.heap.size → w'.heap[b]? = w.heap[b]?) : BS w' S v l := by
  obtain ⟨A, c, e, hl, hc, hn, hx⟩ := h
  refine ⟨A, c, e, hl, hc, hn, fun h0 => ?_⟩
  obtain ⟨b, o, ea, sb, hb, hx⟩ := hx h0
  exact ⟨b, o, ea, sb, by omega, fun j u hu => (World.cell?_of_block (w := w) (hk b sb hb)).trans (hx j u hu)⟩
theorem BS.mono (h : BS w S v l) (hs : ∀ b, S b → S' b) : BS w S' v l := by
  obtain ⟨A, c, e, hl, hc, hn, hx⟩ := h
  refine ⟨A, c, e, hl, hc, hn, fun h0 => ?_⟩
  obtain ⟨b, o, ea, sb, r⟩ := hx h0
  exact ⟨b, o, ea, hs b sb, r⟩
theorem BS.lt (h : BS w S v l) : BS w (fun b => S b ∧ b < w.heap.size) v l := by
  obtain ⟨A, c, e, hl, hc, hn, hx⟩ := h
  refine ⟨A, c, e, hl, hc, hn, fun h0 => ?_⟩
  obtain ⟨b, o, ea, sb, hb, r⟩ := hx h0
  exact ⟨b, o, ea, ⟨sb, hb⟩, hb, r⟩
theorem BS.grown {row : Option Nat} (h : BS w S v l) (hg : w.grownBy w' row) (hr : ∀ g, row = some g → ¬ S g) : BS w' S v l :=
  h.keep hg.size fun b sb hb => hg.block b hb (fun e => hr b e.symm sb)
theorem BS.below {B : Nat} (h : BS w S v l) (hg : Below B w w') (hr : ∀ b, S b → b < B) : BS w' S v l :=
  h.keep hg.size fun b sb _ => hg.block b (hr b sb)
theorem BS.below' (h : BS w S v l) (hg : Below w.heap.size w w') : BS w' S v l :=
  h.keep hg.size fun b _ hb => hg.block b hb
theorem BS.past (hg : Below w.heap.size w w') (h : BS w S v l) : BS w' S v l := h.below' hg
theorem BS.alloc (h : BS w S v l) (o : Obj) : BS (w.alloc o) S v l :=
  h.keep (by simp) fun b _ hb => Below.heap_alloc w o b hb
theorem BS.setCell (h : BS w S v l) {p : Addr} (hp : ¬ S p.block) (u : Value) : BS (w.setCell p u) S v l :=
  h.keep (by simp [World.setCell]) fun b sb _ => Below.heap_setCell w p u b (fun e => hp (e ▸ sb))
theorem BS.drewN (h : BS w S v l) (n : Nat) : BS (w.drewN n) S v l := h
theorem BS.len (h : BS w S v l) : l.length ≤ maxLen := by
  obtain ⟨A, c, e, hl, hc, hn, hx⟩ := h
  exact Nat.le_trans hl hc
theorem BS.of_own {base e n : Nat} (h : w.ownsRow base e 1 v n (l.map bv)) : BS w (fun b => base ≤ b) v l := by
  obtain ⟨h1, h2⟩ := h
  have hn : n = l.length := by simpa using h1.symm
  subst hn
  rcases h2 with ⟨rfl, h0⟩ | ⟨g, cap, cur, rfl, hb, hg, hnc, hcm, hcs, htk⟩
  · obtain rfl : l = [] := List.eq_nil_of_length_eq_zero h0
    exact BS.nil w _
  · refine ⟨_, _, rfl, hnc, hcm, (fun h => by cases h), fun _ => ⟨g, 0, rfl, hb, (Array.getElem?_eq_some_iff.1 hg).1, fun j u hu => ?_⟩⟩
    rw [Nat.zero_add, cell_of_row w g j cur e (0, 0) hg]
    have : (l.map bv)[j]? = some (bv u) := by simp [hu]
    rw [← htk, List.getElem?_take] at this
    split at this
    · simpa using this
    · cases this
theorem BS.take {A : Option Addr} {n c : Nat} (h : BS w S (.slice A n c) l) (k : Nat) (hk : k ≤ l.length) : BS w S (.slice A k c) (l.take k) := by
  obtain ⟨A', c', e, hl, hc, hn, hx⟩ := h
  injection e with e1 e2 e3
  subst e1 e2 e3
  have hlen : (l.take k).length = k := by simp; omega
  refine ⟨A, c, by rw [hlen], by omega, hc, hn, fun h0 => ?_⟩
  obtain ⟨b, o, ea, sb, hb, hx⟩ := hx (by omega)
  exact ⟨b, o, ea, sb, hb, fun j u hu => hx j u (by
    rw [List.getElem?_take] at hu
    split at hu
    · exact hu
    · cases hu)⟩
theorem BS.drop {b o n c : Nat} (h : BS w S (.slice (some ⟨b, o, none⟩) n c) l) (k : Nat) (hk : k ≤ l.length) : BS w S (.slice (some (if c = k then ⟨b, o, none⟩ else ⟨b, o + k, none⟩)) (n - k) (c - k)) (l.drop k) := by
  obtain ⟨A', c', e, hl, hc, hn, hx⟩ := h
  injection e with e1 e2 e3
  subst e1 e2 e3
  refine ⟨some (if c = k then ⟨b, o, none⟩ else ⟨b, o + k, none⟩), c - k, by rw [List.length_drop], by rw [List.length_drop]; omega, by omega, (fun h => by cases h), fun h0 => ?_⟩
  rw [List.length_drop] at h0
  obtain ⟨b', o', ea, sb, hb, hx⟩ := hx (by omega)
  injection ea with ea
  injection ea with ea eo
  subst ea eo
  rw [if_neg (by omega)]
  refine ⟨b, o + k, rfl, sb, hb, fun j u hu => ?_⟩
  rw [Nat.add_assoc]
  exact hx (k + j) u (by rw [← hu, List.getElem?_drop])
theorem BS.at_ {A : Option Addr} {n c : Nat} (h : BS w S (.slice A n c) l) (hp : 0 < l.length) :
    ∃ b o, A = some ⟨b, o, none⟩ ∧ S b ∧ b < w.heap.size ∧ ∀ j u, l[j]? = some u → w.cell? ⟨b, o + j, none⟩ = some (.int .u8 (u.toNat : Int)) := by
  obtain ⟨A', c', e, hl, hc, hn, hx⟩ := h
  injection e with e1 e2 e3
  subst e1
  exact hx hp
theorem BS.form (h : BS w S v l) : ∃ A c, v = .slice A l.length c ∧ l.length ≤ c ∧ c ≤ maxLen ∧ (A = none → c = 0) := by
  obtain ⟨A, c, e, hl, hc, hn, hx⟩ := h
  exact ⟨A, c, e, hl, hc, hn⟩
theorem BS.news {b o c n : Nat} (h : BS w S (.slice (some ⟨b, o, none⟩) n c) l) : ∀ j u, (l.map bv)[j]? = some u → w.cell? ((⟨b, o, none⟩ : Addr).add j) = some u := by
  intro j u hu
  have hj : j < l.length := by
    have := (List.getElem?_eq_some_iff.1 hu).1
    simpa using this
  obtain ⟨b', o', ea, sb, hb, hx⟩ := h.at_ (by omega)
  injection ea with ea
  injection ea with ea eo
  subst ea eo
  rw [List.getElem?_map] at hu
  cases hl : l[j]? with
  | none => rw [hl] at hu; cases hu
  | some y =>
    rw [hl] at hu
    simp only [Option.map_some, Option.some.injEq] at hu
    subst hu
    rw [Addr.add_lit]
    exact hx j y hl
end
def KB (w : World) (g : Nat) (t : TypeId) (cs : Array Value) : Prop := w.heap[g]? = some (.cells cs t (0, 0))
section
variable {w w' : World} {g : Nat} {t : TypeId} {cs : Array Value}
theorem KB.lt (h : KB w g t cs) : g < w.heap.size := (Array.getElem?_eq_some_iff.1 h).1
theorem KB.cell (h : KB w g t cs) (i : Nat) : w.cell? ⟨g, i, none⟩ = cs[i]? := cell_of_row w g i cs t (0, 0) h
theorem KB.free (h : KB w g t cs) (i : Nat) : w.frozen? ⟨g, i, none⟩ = false := frozen_of_row w g i cs t h
theorem KB.keep (h : KB w g t cs) (hk : w'.heap[g]? = w.heap[g]?) : KB w' g t cs := hk.trans h
theorem KB.grown {row : Option Nat} (h : KB w g t cs) (hg : w.grownBy w' row) (hr : row ≠ some g) : KB w' g t cs := h.keep (hg.block g h.lt fun e => hr e.symm)
theorem KB.below {B : Nat} (h : KB w g t cs) (hg : Below B w w') (hr : g < B) : KB w' g t cs := h.keep (hg.block g hr)
theorem KB.alloc (h : KB w g t cs) (o : Obj) : KB (w.alloc o) g t cs := h.keep (Below.heap_alloc w o g h.lt)
theorem KB.new (w : World) (t : TypeId) (cs : Array Value) : KB (w.alloc (.cells cs t)) w.heap.size t cs := heap_alloc_new w _
theorem KB.put (h : KB w g t cs) (i : Nat) (u : Value) : KB (w.setCell ⟨g, i, none⟩ u) g t (cs.setIfInBounds i u) := by
  unfold KB at h ⊢
  simp [World.setCell, Array.getElem?_modify, h]
theorem KB.drewN (h : KB w g t cs) (n : Nat) : KB (w.drewN n) g t cs := h
end
theorem grown_of_below {w w' : World} (h : Below w.heap.size w w') (row : Option Nat) : w.grownBy w' row :=
  ⟨h.os, h.tape, h.output, h.size, fun k hk _ => h.block k hk⟩
theorem below_of_grown {w w' : World} (h : w.grownBy w' none) : Below w.heap.size w w' :=
  ⟨h.os, h.tape, h.output, h.size, fun k hk => h.block k hk (by simp)⟩
theorem below_of_grown' {w w' : World} {g B : Nat} (h : w.grownBy w' (some g)) (hg : B ≤ g) (hB : B ≤ w.heap.size) : Below B w w' :=
  ⟨h.os, h.tape, h.output, h.size, fun k hk => h.block k (by omega) (by simp; omega)⟩
theorem grown_trans {a b c : World} {row : Option Nat} (h : a.grownBy b row) (k : b.grownBy c row) : a.grownBy c row :=
  ⟨k.os.trans h.os, k.tape.trans h.tape, k.output.trans h.output, Nat.le_trans h.size k.size, fun i hi hr => (k.block i (Nat.lt_of_lt_of_le hi h.size) hr).trans (h.block i hi hr)⟩
theorem grown_set (w : World) (g i : Nat) (u : Value) : w.grownBy (w.setCell ⟨g, i, none⟩ u) (some g) :=
  ⟨rfl, rfl, rfl, by simp [World.setCell], fun k _ hr => Below.heap_setCell w _ u k (fun e => hr (by rw [e]))⟩
theorem Below_drawn {B : Nat} {a w : World} (h : Below B a w) (n : Nat) : Below B a (w.drewN n) := ⟨h.os, h.tape, h.output, h.size, h.block⟩
theorem own_past {w w' : World} {base e size n : Nat} {v : Value} {xs : List Value} (hg : Below w.heap.size w w') (h : w.ownsRow base e size v n xs) : w'.ownsRow base e size v n xs :=
  h.kept (grown_of_below hg none) (by cases v.ownBlock <;> simp)
theorem bytes_one (l : List UInt8) : ∀ u ∈ l.map bv, u.oneCell' = true := by
  intro u hu
  obtain ⟨b, _, rfl⟩ := List.mem_map.1 hu
  rfl
theorem run_grow {P : Program} (w : World) (base : Nat) (t ty e : TypeId) (i : TypeInfo) (ht : P.underlying t = some (.slice e)) (hi : P.info? e = some i) (hz : i.zero = some (.int .u8 0))
    (hsize : i.size = 1) (hby : i.bytes = 1) (v : Value) (xs : List UInt8) (hown : w.ownsRow base e 1 v xs.length (xs.map bv))
    (S : Nat → Prop) (x : Value) (ys : List UInt8) (hx : BS w S x ys) (hb : xs.length + ys.length ≤ 140737488355328) (hbase : base ≤ w.heap.size) :
    ∃ v' w', (Builtin.append_ #[t, t] ty #[v, x]).run P w = .ok v' w' ∧ w'.ownsRow base e 1 v' (xs ++ ys).length ((xs ++ ys).map bv) ∧ w.grownBy w' v.ownBlock ∧
      (v'.ownBlock = v.ownBlock ∨ v'.ownBlock = some w.heap.size) := by
  obtain ⟨A, c, rfl, hl, hc, hn, hcell⟩ := hx
  rcases A with _ | ad
  · obtain rfl := hn rfl
    have h0 : ys = [] := List.eq_nil_of_length_eq_zero (by omega)
    subst h0
    exact ⟨v, w, run_append_owned_none w base t ty e i 1 ht hi v _ _ hown, by simpa using hown, World.grownBy.refl w _, .inl rfl⟩
  · have hnews : ∀ j u, (ys.map bv)[j]? = some u → w.cell? (ad.add j) = some u := by
      intro j u hu
      have hj : 0 < ys.length := by
        have := (List.getElem?_eq_some_iff.1 hu).1
        simp at this
        omega
      obtain ⟨b, o, ea, _⟩ := hcell hj
      injection ea with ea
      subst ea
      exact BS.news (S := S) ⟨_, _, rfl, hl, hc, hn, hcell⟩ j u hu
    obtain ⟨v', w', h1, h2, h3, _, h5⟩ := run_append_own_at (P := P) w base t ty e i _ 1 1 ht hi hz hsize hby rfl (by omega) v xs.length _ hown ad ys.length c (ys.map bv) (by simp) hnews (bytes_one ys)
      (by unfold maxLen; omega) (by omega) hbase
    exact ⟨v', w', h1, by simpa using h2, h3, h5⟩
theorem wpList_grow {P : Program} (w : World) {ops : Array Oper} {rest : List Oper} {o : Oper} {a : Act} {Q : Exit → Act → World → Prop} (hgd : o.guard = none) (s x : Operand) (t : TypeId)
    (ho : o.op = .call { callee := .builtin .append, args := #[s, x], argTypes := #[t, t] })
    (base : Nat) (e : TypeId) (i : TypeInfo) (ht : P.underlying t = some (.slice e)) (hi : P.info? e = some i) (hz : i.zero = some (.int .u8 0))
    (hsize : i.size = 1) (hby : i.bytes = 1) (v : Value) (xs : List UInt8) (hs : a.eval s = v) (hown : w.ownsRow base e 1 v xs.length (xs.map bv))
    (S : Nat → Prop) (xv : Value) (ys : List UInt8) (hxe : a.eval x = xv) (hx : BS w S xv ys) (hb : xs.length + ys.length ≤ 140737488355328) (hbase : base ≤ w.heap.size)
    (h : ∀ v' w', w'.ownsRow base e 1 v' (xs ++ ys).length ((xs ++ ys).map bv) → w.grownBy w' v.ownBlock → (v'.ownBlock = v.ownBlock ∨ v'.ownBlock = some w.heap.size) → wpList P ops Q rest (a.put o.dst v') w') :
    wpList P ops Q (o :: rest) a w := by
  refine wpList_plain hgd fun K hK => ?_
  obtain ⟨v', w', hrun, h2, h3, h4⟩ := run_grow (P := P) w base t o.type e i ht hi hz hsize hby v xs hown S xv ys hx hb hbase
  unfold Oper.wp execOp
  simp only [ho, resolve, invoke, builtin, Sem.run_bind, Sem.run_pure, Result.andThen_ok, List.map_toArray, List.map_cons, List.map_nil, hs, hxe, hrun]
  exact hK _ _ (h v' w' h2 h3 h4)
def LS (w : World) (S : Nat → Prop) (v : Value) (ls : List (List UInt8)) : Prop :=
  ∃ A c, v = .slice A ls.length c ∧ ls.length ≤ c ∧ c ≤ maxLen ∧
    (0 < ls.length → ∃ b o, A = some ⟨b, o, none⟩ ∧ S b ∧ b < w.heap.size ∧ ∀ j l, ls[j]? = some l → ∃ x, w.cell? ⟨b, o + j, none⟩ = some x ∧ BS w S x l)
section
variable {w w' : World} {S S' : Nat → Prop} {v : Value} {ls : List (List UInt8)}
theorem LS.keep (h : LS w S v ls) (hs : w.heap.size ≤ w'.heap.size) (hk : ∀ b, S b → b < w.heap.size → w'.heap[b]? = w.heap[b]?) : LS w' S v ls := by
  obtain ⟨A, c, e, hl, hc, hx⟩ := h
  refine ⟨A, c, e, hl, hc, fun h0 => ?_⟩
  obtain ⟨b, o, ea, sb, hb, hx⟩ := hx h0
  refine ⟨b, o, ea, sb, by omega, fun j l hj => ?_⟩
  obtain ⟨x, h1, h2⟩ := hx j l hj
  exact ⟨x, (World.cell?_of_block (w := w) (hk b sb hb)).trans h1, h2.keep hs hk⟩
theorem LS.mono (h : LS w S v ls) (hs : ∀ b, S b → S' b) : LS w S' v ls := by
  obtain ⟨A, c, e, hl, hc, hx⟩ := h
  refine ⟨A, c, e, hl, hc, fun h0 => ?_⟩
  obtain ⟨b, o, ea, sb, hb, hx⟩ := hx h0
  refine ⟨b, o, ea, hs b sb, hb, fun j l hj => ?_⟩
  obtain ⟨x, h1, h2⟩ := hx j l hj
  exact ⟨x, h1, h2.mono hs⟩
theorem LS.below' (h : LS w S v ls) (hg : Below w.heap.size w w') : LS w' S v ls := h.keep hg.size fun b _ hb => hg.block b hb
theorem LS.form (h : LS w S v ls) : ∃ A c, v = .slice A ls.length c ∧ ls.length ≤ c ∧ c ≤ maxLen := by
  obtain ⟨A, c, e, hl, hc, hx⟩ := h
  exact ⟨A, c, e, hl, hc⟩
theorem LS.at_ {A : Option Addr} {n c : Nat} (h : LS w S (.slice A n c) ls) (hp : 0 < ls.length) :
    ∃ b o, A = some ⟨b, o, none⟩ ∧ S b ∧ b < w.heap.size ∧ ∀ j l, ls[j]? = some l → ∃ A' c', w.cell? ⟨b, o + j, none⟩ = some (.slice A' l.length c') ∧ BS w S (.slice A' l.length c') l := by
  obtain ⟨A', c', e, hl, hc, hx⟩ := h
  injection e with e1 e2 e3
  subst e1
  obtain ⟨b, o, ea, sb, hb, hx⟩ := hx hp
  refine ⟨b, o, ea, sb, hb, fun j l hj => ?_⟩
  obtain ⟨x, h1, h2⟩ := hx j l hj
  obtain ⟨A', c', rfl, _⟩ := h2.form
  exact ⟨A', c', h1, h2⟩
theorem LS.two {x y : Value} {l m : List UInt8} {t : TypeId} (hx : BS w S x l) (hy : BS w S y m) :
    LS (w.alloc (.cells #[x, y] t)) (fun b => S b ∨ b = w.heap.size) (.slice (some ⟨w.heap.size, 0, none⟩) 2 2) [l, m] := by
  refine ⟨_, 2, rfl, by simp, by simp [maxLen], fun _ => ⟨w.heap.size, 0, rfl, .inr rfl, by simp, fun j l' hj => ?_⟩⟩
  have hk := KB.new w t #[x, y]
  match j, hj with
  | 0, hj => simp at hj; subst hj; exact ⟨x, hk.cell 0, (hx.alloc _).mono fun b h => .inl h⟩
  | 1, hj => simp at hj; subst hj; exact ⟨y, hk.cell 1, (hy.alloc _).mono fun b h => .inl h⟩
theorem LS.three {x y z : Value} {l m n : List UInt8} {t : TypeId} (hx : BS w S x l) (hy : BS w S y m) (hz : BS w S z n) :
    LS (w.alloc (.cells #[x, y, z] t)) (fun b => S b ∨ b = w.heap.size) (.slice (some ⟨w.heap.size, 0, none⟩) 3 3) [l, m, n] := by
  refine ⟨_, 3, rfl, by simp, by simp [maxLen], fun _ => ⟨w.heap.size, 0, rfl, .inr rfl, by simp, fun j l' hj => ?_⟩⟩
  have hk := KB.new w t #[x, y, z]
  match j, hj with
  | 0, hj => simp at hj; subst hj; exact ⟨x, hk.cell 0, (hx.alloc _).mono fun b h => .inl h⟩
  | 1, hj => simp at hj; subst hj; exact ⟨y, hk.cell 1, (hy.alloc _).mono fun b h => .inl h⟩
  | 2, hj => simp at hj; subst hj; exact ⟨z, hk.cell 2, (hz.alloc _).mono fun b h => .inl h⟩
end
theorem BS.lit (w : World) (t : TypeId) (l : List UInt8) (hl : l.length ≤ maxLen) (fr : Nat × Nat := (0, 0)) : BS (w.alloc (.cells (l.map bv).toArray t fr)) (fun b => w.heap.size ≤ b) (.slice (some ⟨w.heap.size, 0, none⟩) l.length l.length) l := by
  refine ⟨_, _, rfl, Nat.le_refl _, hl, (fun h => by cases h), fun _ => ⟨w.heap.size, 0, rfl, Nat.le_refl _, by simp, fun j u hu => ?_⟩⟩
  rw [Nat.zero_add, cell_of_row _ w.heap.size j _ t fr (heap_alloc_new w _)]
  simp [hu]
end
section
def val : List UInt8 → Nat
  | [] => 0
  | b :: l => b.toNat * 256 ^ l.length + val l
theorem val_lt (l : List UInt8) : val l < 256 ^ l.length := by
  induction l with
  | nil => simp [val]
  | cons b l ih =>
    have hb := b.toNat_lt
    have h1 : b.toNat * 256 ^ l.length ≤ 255 * 256 ^ l.length := Nat.mul_le_mul_right _ (by omega)
    simp only [val, List.length_cons, Nat.pow_succ]
    omega
theorem val_snoc (l : List UInt8) (b : UInt8) : val (l ++ [b]) = val l * 256 + b.toNat := by
  induction l with
  | nil => simp [val]
  | cons c l ih =>
    simp only [List.cons_append, val, ih, List.length_append, List.length_cons, List.length_nil, Nat.zero_add, Nat.pow_succ, Nat.add_mul, Nat.mul_assoc]
    omega
theorem val_take_succ (l : List UInt8) (k : Nat) (h : k < l.length) : val (l.take (k + 1)) = val (l.take k) * 256 + (l[k]).toNat := by
  rw [List.take_succ_eq_append_getElem h, val_snoc]
theorem val_lt_eight (l : List UInt8) (h : l.length ≤ 8) : val l < 18446744073709551616 :=
  Nat.lt_of_lt_of_le (val_lt l) (Nat.le_trans (Nat.pow_le_pow_right (by omega) h) (by decide))
theorem val_lt_seven (l : List UInt8) (h : l.length ≤ 7) : val l < 72057594037927936 :=
  Nat.lt_of_lt_of_le (val_lt l) (Nat.le_trans (Nat.pow_le_pow_right (by omega) h) (by decide))
def dig : Nat → Nat → List UInt8
  | 0, _ => []
  | f + 1, n => if n = 0 then [] else dig f (n / 256) ++ [UInt8.ofNat (n % 256)]
def numb (n : Nat) : List UInt8 := UInt8.ofNat (dig 8 n).length :: dig 8 n
def texb (l : List UInt8) : List UInt8 := numb l.length ++ l
theorem dig_length_le (f n : Nat) : (dig f n).length ≤ f := by
  induction f generalizing n with
  | zero => simp [dig]
  | succ f ih =>
    simp only [dig]
    split
    · simp
    · have := ih (n / 256)
      simp
      omega
theorem dig_val (f n : Nat) (h : n < 256 ^ f) : val (dig f n) = n := by
  induction f generalizing n with
  | zero => simp at h; subst h; rfl
  | succ f ih =>
    simp only [dig]
    split
    · rename_i h0; subst h0; rfl
    · rw [val_snoc, ih (n / 256) (by rw [Nat.pow_succ] at h; omega)]
      have : (UInt8.ofNat (n % 256)).toNat = n % 256 := by simp
      omega
theorem dig_head (f n : Nat) (h : n < 256 ^ f) : (dig f n).head? ≠ some 0 := by
  induction f generalizing n with
  | zero => simp [dig]
  | succ f ih =>
    simp only [dig]
    split
    · simp
    · rename_i h0
      have hd := ih (n / 256) (by rw [Nat.pow_succ] at h; omega)
      by_cases hq : n / 256 = 0
      · have e : dig f (n / 256) = [] := by rw [hq]; cases f <;> simp [dig]
        rw [e]
        simp only [List.nil_append, List.head?_cons, ne_eq, Option.some.injEq]
        intro hx
        have := congrArg UInt8.toNat hx
        simp at this
        omega
      · cases hq' : dig f (n / 256) with
        | nil =>
          have hv := dig_val f (n / 256) (by rw [Nat.pow_succ] at h; omega)
          rw [hq'] at hv
          simp [val] at hv
          omega
        | cons x l =>
          rw [hq'] at hd
          simpa using hd
theorem dig_of_val (f : Nat) (l : List UInt8) (hl : l.length ≤ f) (h0 : l.head? ≠ some 0) : dig f (val l) = l := by
  induction f generalizing l with
  | zero =>
    have : l = [] := List.eq_nil_of_length_eq_zero (by omega)
    subst this; rfl
  | succ f ih =>
    rcases List.eq_nil_or_concat l with rfl | ⟨m, b, rfl⟩
    · simp [val, dig]
    · rw [List.concat_eq_append] at *
      have hb := b.toNat_lt
      rw [val_snoc]
      have hne : val m * 256 + b.toNat ≠ 0 := by
        intro hz
        cases m with
        | nil =>
          simp [val] at hz
          apply h0
          simp
          exact UInt8.toNat_inj.1 (by simpa using hz)
        | cons c m =>
          have hc : c.toNat = 0 := by
            simp only [val] at hz
            have hp : 0 < 256 ^ m.length := Nat.pow_pos (by omega)
            rcases Nat.eq_zero_or_pos c.toNat with h | h
            · exact h
            · have := Nat.mul_pos h hp; omega
          apply h0
          simp
          exact UInt8.toNat_inj.1 (by simpa using hc)
      simp only [dig, if_neg hne]
      rw [show (val m * 256 + b.toNat) / 256 = val m by omega, show (val m * 256 + b.toNat) % 256 = b.toNat by omega, ih m (by simp at hl; omega) (by
        cases m with
        | nil => simp
        | cons c m => simpa using h0)]
      simp
def numOf : Option (List UInt8) → Option (List UInt8) × Nat
  | some (h :: t) => if 8 < h.toNat ∨ t.length < h.toNat ∨ (t.take h.toNat).head? = some 0 then (none, 0) else (some (t.drop h.toNat), val (t.take h.toNat))
  | _ => (none, 0)
theorem numOf_lt (st : Option (List UInt8)) : (numOf st).2 < 18446744073709551616 := by
  unfold numOf
  split
  · split
    · simp
    · exact val_lt_eight _ (by simp; omega)
  · simp
theorem numOf_numb (n : Nat) (l : List UInt8) (h : n < 18446744073709551616) : numOf (some (numb n ++ l)) = (some l, n) := by
  have h1 := dig_length_le 8 n
  have h2 : (UInt8.ofNat (dig 8 n).length).toNat = (dig 8 n).length := by simp; omega
  have h3 : (dig 8 n ++ l).take (dig 8 n).length = dig 8 n := List.take_left
  have h4 : (dig 8 n ++ l).drop (dig 8 n).length = l := List.drop_left
  have h5 := dig_head 8 n (by simpa using h)
  simp only [numb, List.cons_append, numOf, h2, h3, h4]
  rw [if_neg (by simp; exact ⟨by omega, h5⟩), dig_val 8 n (by simpa using h)]
theorem numb_numOf (l l' : List UInt8) (n : Nat) (h : numOf (some l) = (some l', n)) : numb n ++ l' = l := by
  cases l with
  | nil => simp [numOf] at h
  | cons a t =>
    simp only [numOf] at h
    split at h
    · simp at h
    · rename_i hc
      simp only [Prod.mk.injEq, Option.some.injEq] at h
      obtain ⟨rfl, rfl⟩ := h
      have e := dig_of_val 8 (t.take a.toNat) (by simp; omega) (fun e => hc (.inr (.inr e)))
      have e2 : (t.take a.toNat).length = a.toNat := by simp; omega
      simp only [numb, e, e2, List.cons_append, List.take_append_drop]
      congr 1
      simp
def passed (n : Int) (st : Option (List UInt8)) : Option (List UInt8) × List UInt8 :=
  if n < 0 ∨ (st.getD []).length < n then (none, []) else (st.map (·.drop n.toNat), (st.getD []).take n.toNat)
def cntOf (most : Int) (st : Option (List UInt8)) : Option (List UInt8) × Nat :=
  if most < 0 ∨ most < (numOf st).2 then (none, 0) else numOf st
def txtOf (most : Int) (st : Option (List UInt8)) : Option (List UInt8) × List UInt8 := passed (cntOf most st).2 (cntOf most st).1
def u64 (i : Int) : Nat := (i % 18446744073709551616).toNat
end
section
def okc (c : Nat) : Bool := (decide (97 ≤ c) && decide (c ≤ 122)) || (decide (48 ≤ c) && decide (c ≤ 57)) || decide (c = 46) || decide (c = 45) || decide (c = 95)
def nameS (l : List UInt8) : Bool := decide (1 ≤ l.length) && decide (l.length ≤ 16) && l.all fun b => okc b.toNat
theorem name_iff (l : List UInt8) : nameS l = true ↔ 1 ≤ l.length ∧ l.length ≤ 16 ∧ ∀ b ∈ l, okc b.toNat = true := by
  unfold nameS
  simp only [Bool.and_eq_true, decide_eq_true_eq, and_assoc, List.all_eq_true]
theorem name_ex : nameS [97, 45, 49, 46, 120] = true := by decide +kernel
theorem name_ex2 : nameS [65] = false := by decide +kernel
end
section
structure Ns (α : Type) where
  op : Int
  name : List UInt8
  from_ : Int
  to_ : Int
  kids : List α
def Sc : Nat → Type
  | 0 => Empty
  | f + 1 => Ns (Sc f)
def liftS : (f : Nat) → Sc f → Sc (f + 1)
  | 0, x => nomatch x
  | f + 1, (x : Ns (Sc f)) => (⟨x.op, x.name, x.from_, x.to_, x.kids.map (liftS f)⟩ : Ns (Sc (f + 1)))
def sameSL {α β : Type} (g : α → β → Bool) : List α → List β → Bool
  | [], [] => true
  | a :: l, b :: m => g a b && sameSL g l m
  | _, _ => false
def sameS : (f g : Nat) → Sc f → Sc g → Bool
  | 0, _, x, _ => nomatch x
  | _ + 1, 0, _, y => nomatch y
  | f + 1, g + 1, (a : Ns (Sc f)), (b : Ns (Sc g)) => decide (a.op = b.op) && decide (a.name = b.name) && decide (a.from_ = b.from_) && decide (a.to_ = b.to_) && sameSL (sameS f g) a.kids b.kids
theorem sameSL_iff {α : Type} {g : α → α → Bool} (h : ∀ a b, g a b = true ↔ a = b) : ∀ (l m : List α), sameSL g l m = true ↔ l = m
  | [], [] => by simp [sameSL]
  | [], b :: m => by simp [sameSL]
  | a :: l, [] => by simp [sameSL]
  | a :: l, b :: m => by rw [sameSL, Bool.and_eq_true, h, sameSL_iff h l m, List.cons.injEq]
theorem sameS_iff : ∀ (f : Nat) (a b : Sc f), sameS f f a b = true ↔ a = b
  | 0, a, _ => nomatch a
  | f + 1, ⟨k, n, d, e, ks⟩, ⟨k', n', d', e', ks'⟩ => by
    show (decide (k = k') && decide (n = n') && decide (d = d') && decide (e = e') && sameSL (sameS f f) ks ks') = true ↔ _
    rw [Bool.and_eq_true, Bool.and_eq_true, Bool.and_eq_true, Bool.and_eq_true, sameSL_iff (sameS_iff f), decide_eq_true_iff, decide_eq_true_iff, decide_eq_true_iff, decide_eq_true_iff]
    constructor
    · rintro ⟨⟨⟨⟨rfl, rfl⟩, rfl⟩, rfl⟩, rfl⟩; rfl
    · intro h; injection h with h1 h2 h3 h4 h5; exact ⟨⟨⟨⟨h1, h2⟩, h3⟩, h4⟩, h5⟩
theorem sameSL_sym {α β : Type} {g : α → β → Bool} {g' : β → α → Bool} (h : ∀ a b, g a b = true → g' b a = true) : ∀ (l : List α) (m : List β), sameSL g l m = true → sameSL g' m l = true
  | [], [], _ => rfl
  | [], b :: m, e => by simp [sameSL] at e
  | a :: l, [], e => by simp [sameSL] at e
  | a :: l, b :: m, e => by
    rw [sameSL, Bool.and_eq_true] at e ⊢
    exact ⟨h _ _ e.1, sameSL_sym h l m e.2⟩
theorem sameS_parts {f g : Nat} {a : Ns (Sc f)} {b : Ns (Sc g)} : sameS (f + 1) (g + 1) a b = true ↔ a.op = b.op ∧ a.name = b.name ∧ a.from_ = b.from_ ∧ a.to_ = b.to_ ∧ sameSL (sameS f g) a.kids b.kids = true := by
  show (decide (a.op = b.op) && decide (a.name = b.name) && decide (a.from_ = b.from_) && decide (a.to_ = b.to_) && sameSL (sameS f g) a.kids b.kids) = true ↔ _
  simp only [Bool.and_eq_true, decide_eq_true_eq, and_assoc]
theorem sameS_sym : ∀ (f g : Nat) (a : Sc f) (b : Sc g), sameS f g a b = true → sameS g f b a = true
  | 0, _, a, _, _ => nomatch a
  | _ + 1, 0, _, b, _ => nomatch b
  | f + 1, g + 1, (a : Ns (Sc f)), (b : Ns (Sc g)), e => by
    obtain ⟨h1, h2, h3, h4, h5⟩ := sameS_parts.1 e
    exact sameS_parts.2 ⟨h1.symm, h2.symm, h3.symm, h4.symm, sameSL_sym (sameS_sym f g) _ _ h5⟩
theorem sameSL_trans {α β γ : Type} {g : α → β → Bool} {g' : β → γ → Bool} {g2 : α → γ → Bool} (h : ∀ a b c, g a b = true → g' b c = true → g2 a c = true) :
    ∀ (l : List α) (m : List β) (n : List γ), sameSL g l m = true → sameSL g' m n = true → sameSL g2 l n = true
  | [], [], [], _, _ => rfl
  | [], [], _ :: _, _, e => by simp [sameSL] at e
  | [], b :: m, _, e, _ => by simp [sameSL] at e
  | a :: l, [], _, e, _ => by simp [sameSL] at e
  | a :: l, b :: m, [], _, e => by simp [sameSL] at e
  | a :: l, b :: m, c :: n, e, e' => by
    rw [sameSL, Bool.and_eq_true] at e e' ⊢
    exact ⟨h _ _ _ e.1 e'.1, sameSL_trans h l m n e.2 e'.2⟩
theorem sameS_trans : ∀ (f g k : Nat) (a : Sc f) (b : Sc g) (c : Sc k), sameS f g a b = true → sameS g k b c = true → sameS f k a c = true
  | 0, _, _, a, _, _, _, _ => nomatch a
  | _ + 1, 0, _, _, b, _, _, _ => nomatch b
  | _ + 1, _ + 1, 0, _, _, c, _, _ => nomatch c
  | f + 1, g + 1, k + 1, (a : Ns (Sc f)), (b : Ns (Sc g)), (c : Ns (Sc k)), e, e' => by
    obtain ⟨h1, h2, h3, h4, h5⟩ := sameS_parts.1 e
    obtain ⟨g1, g2, g3, g4, g5⟩ := sameS_parts.1 e'
    exact sameS_parts.2 ⟨h1.trans g1, h2.trans g2, h3.trans g3, h4.trans g4, sameSL_trans (sameS_trans f g k) _ _ _ h5 g5⟩
theorem sameSL_map {α β : Type} {g : β → α → Bool} (k : α → β) (h : ∀ a, g (k a) a = true) : ∀ l : List α, sameSL g (l.map k) l = true
  | [] => rfl
  | a :: l => by rw [List.map_cons, sameSL, h, sameSL_map k h l]; rfl
theorem sameS_lift : ∀ (f : Nat) (x : Sc f), sameS (f + 1) f (liftS f x) x = true
  | 0, x => nomatch x
  | f + 1, (x : Ns (Sc f)) => sameS_parts.2 ⟨rfl, rfl, rfl, rfl, sameSL_map (liftS f) (sameS_lift f) _⟩
theorem sameSL_len {α β : Type} {g : α → β → Bool} : ∀ (l : List α) (m : List β), sameSL g l m = true → l.length = m.length
  | [], [], _ => rfl
  | [], b :: m, e => by simp [sameSL] at e
  | a :: l, [], e => by simp [sameSL] at e
  | a :: l, b :: m, e => by
    rw [sameSL, Bool.and_eq_true] at e
    rw [List.length_cons, List.length_cons, sameSL_len l m e.2]
def namedS (k : Int) : Bool := decide (k = 2 ∨ k = 3 ∨ k = 4)
def manyS (k : Int) : Bool := decide (k = 6 ∨ k = 7)
def kidsOk (k : Int) (n : Nat) : Bool := if manyS k = true then decide (2 ≤ n) else if k = 8 then decide (n = 1) else decide (n = 0)
def fitsS {α : Type} (x : Ns α) : Bool :=
  decide (1 ≤ x.op ∧ x.op ≤ 8) && (if namedS x.op = true then nameS x.name else decide (x.name = [])) && (if x.op = 5 then decide (0 ≤ x.from_ ∧ x.from_ ≤ x.to_ ∧ x.to_ ≤ 1099511627776) else decide (x.from_ = 0 ∧ x.to_ = 0)) && kidsOk x.op x.kids.length
theorem fits_iff {α : Type} (x : Ns α) : fitsS x = true ↔ (1 ≤ x.op ∧ x.op ≤ 8) ∧ (if namedS x.op = true then nameS x.name else decide (x.name = [])) = true ∧ (if x.op = 5 then decide (0 ≤ x.from_ ∧ x.from_ ≤ x.to_ ∧ x.to_ ≤ 1099511627776) else decide (x.from_ = 0 ∧ x.to_ = 0)) = true ∧ kidsOk x.op x.kids.length = true := by
  unfold fitsS
  simp only [Bool.and_eq_true, decide_eq_true_eq, and_assoc]
def okS : (f : Nat) → Sc f → Int → Bool
  | 0, x, _ => nomatch x
  | f + 1, (x : Ns (Sc f)), d => decide (1 ≤ d) && fitsS x && x.kids.all fun u => okS f u (d - 1)
def nodesS : (f : Nat) → Sc f → Nat
  | 0, x => nomatch x
  | f + 1, (x : Ns (Sc f)) => 1 + (x.kids.map (nodesS f)).sum
def mayS (f : Nat) (x : Sc f) : Bool := okS f x 8 && decide (nodesS f x ≤ 24)
theorem okS_eq (f : Nat) (x : Ns (Sc f)) (d : Int) : okS (f + 1) x d = (decide (1 ≤ d) && fitsS x && x.kids.all fun u => okS f u (d - 1)) := rfl
theorem nodesS_eq (f : Nat) (x : Ns (Sc f)) : nodesS (f + 1) x = 1 + (x.kids.map (nodesS f)).sum := rfl
theorem nodesS_pos : ∀ (f : Nat) (x : Sc f), 1 ≤ nodesS f x
  | 0, x => nomatch x
  | f + 1, (x : Ns (Sc f)) => by rw [nodesS_eq]; omega
theorem nodesS_kid (f : Nat) : ∀ (ks : List (Sc f)) (k : Sc f), k ∈ ks → nodesS f k ≤ (ks.map (nodesS f)).sum
  | [], _, h => by cases h
  | a :: l, k, h => by
    rw [List.map_cons, List.sum_cons]
    cases h with
    | head => omega
    | tail _ h => have := nodesS_kid f l k h; omega
theorem nodesS_len (f : Nat) : ∀ (ks : List (Sc f)), ks.length ≤ (ks.map (nodesS f)).sum
  | [] => by simp
  | a :: l => by
    rw [List.map_cons, List.sum_cons, List.length_cons]
    have := nodesS_len f l
    have := nodesS_pos f a
    omega
theorem sameSL_all {α β : Type} {g : α → β → Bool} {p : α → Bool} {q : β → Bool} (h : ∀ a b, g a b = true → p a = q b) : ∀ (l : List α) (m : List β), sameSL g l m = true → l.all p = m.all q
  | [], [], _ => rfl
  | [], b :: m, e => by simp [sameSL] at e
  | a :: l, [], e => by simp [sameSL] at e
  | a :: l, b :: m, e => by
    rw [sameSL, Bool.and_eq_true] at e
    rw [List.all_cons, List.all_cons, h a b e.1, sameSL_all h l m e.2]
theorem sameSL_any {α β : Type} {g : α → β → Bool} {p : α → Bool} {q : β → Bool} (h : ∀ a b, g a b = true → p a = q b) : ∀ (l : List α) (m : List β), sameSL g l m = true → l.any p = m.any q
  | [], [], _ => rfl
  | [], b :: m, e => by simp [sameSL] at e
  | a :: l, [], e => by simp [sameSL] at e
  | a :: l, b :: m, e => by
    rw [sameSL, Bool.and_eq_true] at e
    rw [List.any_cons, List.any_cons, h a b e.1, sameSL_any h l m e.2]
theorem sameSL_mapeq {α β γ : Type} {g : α → β → Bool} {p : α → γ} {q : β → γ} (h : ∀ a b, g a b = true → p a = q b) : ∀ (l : List α) (m : List β), sameSL g l m = true → l.map p = m.map q
  | [], [], _ => rfl
  | [], b :: m, e => by simp [sameSL] at e
  | a :: l, [], e => by simp [sameSL] at e
  | a :: l, b :: m, e => by
    rw [sameSL, Bool.and_eq_true] at e
    rw [List.map_cons, List.map_cons, h a b e.1, sameSL_mapeq h l m e.2]
theorem same_ok : ∀ (f g : Nat) (a : Sc f) (b : Sc g) (d : Int), sameS f g a b = true → okS f a d = okS g b d
  | 0, _, a, _, _, _ => nomatch a
  | _ + 1, 0, _, b, _, _ => nomatch b
  | f + 1, g + 1, (a : Ns (Sc f)), (b : Ns (Sc g)), d, e => by
    obtain ⟨h1, h2, h3, h4, h5⟩ := sameS_parts.1 e
    rw [okS_eq, okS_eq, sameSL_all (fun x y h => same_ok f g x y (d - 1) h) _ _ h5]
    have : fitsS a = fitsS b := by unfold fitsS; rw [h1, h2, h3, h4, sameSL_len _ _ h5]
    rw [this]
theorem same_nodes : ∀ (f g : Nat) (a : Sc f) (b : Sc g), sameS f g a b = true → nodesS f a = nodesS g b
  | 0, _, a, _, _ => nomatch a
  | _ + 1, 0, _, b, _ => nomatch b
  | f + 1, g + 1, (a : Ns (Sc f)), (b : Ns (Sc g)), e => by
    obtain ⟨_, _, _, _, h5⟩ := sameS_parts.1 e
    rw [nodesS_eq, nodesS_eq, sameSL_mapeq (fun x y h => same_nodes f g x y h) _ _ h5]
theorem zsame_may {f g : Nat} {a : Sc f} {b : Sc g} (e : sameS f g a b = true) : mayS f a = mayS g b := by
  unfold mayS; rw [same_ok f g a b 8 e, same_nodes f g a b e]
structure Rc where
  cse : List UInt8
  sub : List UInt8
  cls : List UInt8
  tick : Int
def matchS (r : Rc) : (f : Nat) → Sc f → Bool
  | 0, x => nomatch x
  | f + 1, (x : Ns (Sc f)) =>
    if x.op = 1 then true
    else if x.op = 2 then decide (r.cse = x.name)
    else if x.op = 3 then decide (r.sub = x.name)
    else if x.op = 4 then decide (r.cls = x.name)
    else if x.op = 5 then decide (x.from_ ≤ r.tick ∧ r.tick ≤ x.to_)
    else if x.op = 6 then x.kids.all (matchS r f)
    else if x.op = 7 then x.kids.any (matchS r f)
    else if x.op = 8 then !((x.kids.head?.map (matchS r f)).getD false)
    else false
theorem match_eq (r : Rc) (f : Nat) (x : Ns (Sc f)) : matchS r (f + 1) x =
    if x.op = 1 then true
    else if x.op = 2 then decide (r.cse = x.name)
    else if x.op = 3 then decide (r.sub = x.name)
    else if x.op = 4 then decide (r.cls = x.name)
    else if x.op = 5 then decide (x.from_ ≤ r.tick ∧ r.tick ≤ x.to_)
    else if x.op = 6 then x.kids.all (matchS r f)
    else if x.op = 7 then x.kids.any (matchS r f)
    else if x.op = 8 then !((x.kids.head?.map (matchS r f)).getD false)
    else false := rfl
theorem match_all (r : Rc) (f : Nat) {x : Ns (Sc f)} (h : x.op = 6) : matchS r (f + 1) x = x.kids.all (matchS r f) := by rw [match_eq, h]; rfl
theorem match_any (r : Rc) (f : Nat) {x : Ns (Sc f)} (h : x.op = 7) : matchS r (f + 1) x = x.kids.any (matchS r f) := by rw [match_eq, h]; rfl
theorem match_not (r : Rc) (f : Nat) {x : Ns (Sc f)} (h : x.op = 8) : matchS r (f + 1) x = !((x.kids.head?.map (matchS r f)).getD false) := by rw [match_eq, h]; rfl
theorem match_lift (r : Rc) : ∀ (f : Nat) (x : Sc f), matchS r (f + 1) (liftS f x) = matchS r f x
  | 0, x => nomatch x
  | f + 1, (x : Ns (Sc f)) => by
    show matchS r (f + 2) (⟨x.op, x.name, x.from_, x.to_, x.kids.map (liftS f)⟩ : Ns (Sc (f + 1))) = _
    have e : (matchS r (f + 1) ∘ liftS f) = matchS r f := funext fun k => match_lift r f k
    rw [match_eq, match_eq, List.all_map, List.any_map, List.head?_map, Option.map_map, e]
def notS {f : Nat} (x : Sc f) : Sc (f + 1) := (⟨8, [], 0, 0, [x]⟩ : Ns (Sc f))
def andsS {f : Nat} (l : List (Sc f)) : Sc (f + 1) := (⟨6, [], 0, 0, l⟩ : Ns (Sc f))
def orsS {f : Nat} (l : List (Sc f)) : Sc (f + 1) := (⟨7, [], 0, 0, l⟩ : Ns (Sc f))
theorem not_is (r : Rc) {f : Nat} (x : Sc f) : matchS r (f + 1) (notS x) = !matchS r f x := match_not r f rfl
theorem and_is (r : Rc) {f : Nat} (x y : Sc f) : matchS r (f + 1) (andsS [x, y]) = (matchS r f x && matchS r f y) := by
  rw [show matchS r (f + 1) (andsS [x, y]) = _ from match_all r f rfl]
  simp [andsS]
theorem or_is (r : Rc) {f : Nat} (x y : Sc f) : matchS r (f + 1) (orsS [x, y]) = (matchS r f x || matchS r f y) := by
  rw [show matchS r (f + 1) (orsS [x, y]) = _ from match_any r f rfl]
  simp [orsS]
theorem scope_nots (r : Rc) {f : Nat} (x y : Sc f) : matchS r (f + 2) (notS (andsS [x, y])) = matchS r (f + 2) (orsS [notS x, notS y]) ∧ matchS r (f + 2) (notS (orsS [x, y])) = matchS r (f + 2) (andsS [notS x, notS y]) ∧ matchS r (f + 2) (notS (notS x)) = matchS r f x := by
  refine ⟨?_, ?_, ?_⟩
  · rw [not_is, and_is, or_is, not_is, not_is, Bool.not_and]
  · rw [not_is, or_is, and_is, not_is, not_is, Bool.not_or]
  · rw [not_is, not_is, Bool.not_not]
def zheadS {α : Type} (x : Ns α) : List UInt8 :=
  UInt8.ofNat (x.op % 256).toNat :: ((if namedS x.op = true then texb x.name else []) ++ ((if x.op = 5 then numb x.from_.toNat ++ numb x.to_.toNat else []) ++ (if manyS x.op = true then numb x.kids.length else [])))
def bytesS : (f : Nat) → Sc f → List UInt8
  | 0, x => nomatch x
  | f + 1, (x : Ns (Sc f)) => zheadS x ++ (x.kids.map (bytesS f)).flatten
theorem bytesS_eq (f : Nat) (x : Ns (Sc f)) : bytesS (f + 1) x = zheadS x ++ (x.kids.map (bytesS f)).flatten := rfl
def putSc (f : Nat) (x : Sc f) : List UInt8 × Int := if mayS f x = true then (bytesS f x, 0) else ([], 1)
theorem same_bytes : ∀ (f g : Nat) (a : Sc f) (b : Sc g), sameS f g a b = true → bytesS f a = bytesS g b
  | 0, _, a, _, _ => nomatch a
  | _ + 1, 0, _, b, _ => nomatch b
  | f + 1, g + 1, (a : Ns (Sc f)), (b : Ns (Sc g)), e => by
    obtain ⟨h1, h2, h3, h4, h5⟩ := sameS_parts.1 e
    have : zheadS a = zheadS b := by unfold zheadS; rw [h1, h2, h3, h4, sameSL_len _ _ h5]
    rw [bytesS_eq, bytesS_eq, this, sameSL_mapeq (fun x y h => same_bytes f g x y h) _ _ h5]
def zeroNs {α : Type} : Ns α := ⟨0, [], 0, 0, []⟩
def kidsR {α : Type} (g : Option (List UInt8) → Option (List UInt8) × α) : Nat → Option (List UInt8) → Option (List UInt8) × List α
  | 0, st => (st, [])
  | n + 1, none => (none, [])
  | n + 1, some l => ((kidsR g n (g (some l)).1).1, (g (some l)).2 :: (kidsR g n (g (some l)).1).2)
def nameR (k : Int) (st : Option (List UInt8)) : Option (List UInt8) × List UInt8 := if namedS k = true then txtOf 16 st else (st, [])
def tickR (k : Int) (st : Option (List UInt8)) : Option (List UInt8) × Nat := if k = 5 then cntOf 1099511627776 st else (st, 0)
def manyR (k : Int) (st : Option (List UInt8)) : Option (List UInt8) × Nat := if manyS k = true then cntOf 24 st else if k = 8 then (st, 1) else (st, 0)
def readSc : (deep : Nat) → Option (List UInt8) → Option (List UInt8) × Ns (Sc deep)
  | 0, _ => (none, zeroNs)
  | _ + 1, none => (none, zeroNs)
  | _ + 1, some [] => (none, zeroNs)
  | d + 1, some (b :: l) =>
    let k : Int := b.toNat
    let r1 := nameR k (some l)
    let r2 := tickR k r1.1
    let r3 := tickR k r2.1
    let r4 := manyR k r3.1
    let r5 := kidsR (readSc d) r4.2 r4.1
    (r5.1, ⟨k, r1.2, (r2.2 : Int), (r3.2 : Int), r5.2⟩)
theorem rs_zero (st : Option (List UInt8)) : readSc 0 st = (none, zeroNs) := by cases st <;> rfl
theorem rs_none (d : Nat) : readSc d none = (none, zeroNs) := by cases d <;> rfl
theorem rs_nil (d : Nat) : readSc d (some []) = (none, zeroNs) := by cases d <;> rfl
theorem rs_cons (d : Nat) (b : UInt8) (l : List UInt8) : readSc (d + 1) (some (b :: l)) =
    ((kidsR (readSc d) (manyR (b.toNat : Int) (tickR (b.toNat : Int) (tickR (b.toNat : Int) (nameR (b.toNat : Int) (some l)).1).1).1).2 (manyR (b.toNat : Int) (tickR (b.toNat : Int) (tickR (b.toNat : Int) (nameR (b.toNat : Int) (some l)).1).1).1).1).1,
      ⟨(b.toNat : Int), (nameR (b.toNat : Int) (some l)).2, ((tickR (b.toNat : Int) (nameR (b.toNat : Int) (some l)).1).2 : Int), ((tickR (b.toNat : Int) (tickR (b.toNat : Int) (nameR (b.toNat : Int) (some l)).1).1).2 : Int),
        (kidsR (readSc d) (manyR (b.toNat : Int) (tickR (b.toNat : Int) (tickR (b.toNat : Int) (nameR (b.toNat : Int) (some l)).1).1).1).2 (manyR (b.toNat : Int) (tickR (b.toNat : Int) (tickR (b.toNat : Int) (nameR (b.toNat : Int) (some l)).1).1).1).1).2⟩) := rfl
def getSc (b : List UInt8) : Ns (Sc 8) × Int := if (readSc 8 (some b)).1 = some [] ∧ mayS 9 (readSc 8 (some b)).2 = true then ((readSc 8 (some b)).2, 0) else (zeroNs, 2)
end
section
theorem sc_txt_of {l : List UInt8} (h : l.length ≤ 16) (r : List UInt8) : txtOf 16 (some (texb l ++ r)) = (some r, l) := by
  unfold txtOf cntOf texb
  rw [List.append_assoc, numOf_numb _ _ (by omega), if_neg (by simp; omega)]
  unfold passed
  simp only [Option.getD_some, List.length_append]
  rw [if_neg (by omega)]
  simp
theorem sc_cnt_of {m : Int} {z : Nat} (h : (z : Int) ≤ m) (hz : z < 18446744073709551616) (r : List UInt8) : cntOf m (some (numb z ++ r)) = (some r, z) := by
  unfold cntOf
  rw [numOf_numb _ _ hz, if_neg (by simp; omega)]
theorem sc_cnt_back {b r : List UInt8} {m : Int} {z : Nat} (h : cntOf m (some b) = (some r, z)) : numb z ++ r = b := by
  unfold cntOf at h
  split at h
  · cases h
  · exact numb_numOf b r z h
theorem sc_txt_back {b l r : List UInt8} {m : Int} (h : txtOf m (some b) = (some r, l)) : texb l ++ r = b := by
  unfold txtOf at h
  cases hc : cntOf m (some b) with
  | mk st n =>
    rw [hc] at h
    cases st with
    | none =>
      simp only [passed] at h
      split at h
      · cases h
      · cases h
    | some t =>
      simp only [passed, Option.getD_some, Option.map_some] at h
      split at h
      · cases h
      · rename_i hx
        injection h with h1 h2
        injection h1 with h1
        have hl := sc_cnt_back hc
        have hlen : l.length = n := by rw [← h2, List.length_take]; omega
        rw [← hl, texb, hlen, List.append_assoc, ← h2, ← h1, Int.toNat_natCast, List.take_append_drop]
theorem sc_cnt_none (m : Int) : (cntOf m none).1 = none := by
  unfold cntOf
  split <;> rfl
theorem sc_pass_none (n : Int) : (passed n none).1 = none := by
  unfold passed
  split <;> rfl
theorem sc_txt_none (m : Int) : (txtOf m none).1 = none := by
  unfold txtOf
  rw [sc_cnt_none]
  exact sc_pass_none _
theorem kidsR_none {α : Type} (g : Option (List UInt8) → Option (List UInt8) × α) : ∀ n, kidsR g n none = (none, [])
  | 0 => rfl
  | _ + 1 => rfl
theorem kidsR_bytes {α : Type} {g : Option (List UInt8) → Option (List UInt8) × α} {B : α → List UInt8} (h : ∀ l l' u, g (some l) = (some l', u) → B u ++ l' = l) :
    ∀ (n : Nat) (l l' : List UInt8) (ks : List α), kidsR g n (some l) = (some l', ks) → (ks.map B).flatten ++ l' = l ∧ ks.length = n
  | 0, l, l', ks, e => by
    rw [kidsR] at e
    injection e with e1 e2
    injection e1 with e1
    subst e1 e2; exact ⟨rfl, rfl⟩
  | n + 1, l, l', ks, e => by
    rw [kidsR] at e
    cases hg : g (some l) with
    | mk st u =>
      rw [hg] at e
      cases st with
      | none => rw [kidsR_none] at e; injection e with e1 _; cases e1
      | some m =>
        cases hr : kidsR g n (some m) with
        | mk st2 us =>
          simp only [hr] at e
          injection e with e1 e2
          subst e1 e2
          have := kidsR_bytes h n m l' us hr
          rw [List.map_cons, List.flatten_cons, List.append_assoc, this.1, List.length_cons, this.2]
          exact ⟨h l m u hg, rfl⟩
theorem name_back {k : Int} {s : Option (List UInt8)} {m n : List UInt8} (h : nameR k s = (some m, n)) : ∃ l, s = some l ∧ (if namedS k = true then texb n else []) ++ m = l := by
  unfold nameR at h
  split at h
  · rename_i hk
    rw [if_pos hk]
    cases s with
    | none => have := sc_txt_none 16; rw [h] at this; cases this
    | some l => exact ⟨l, rfl, sc_txt_back h⟩
  · rename_i hk
    rw [if_neg hk]
    injection h with h1 _
    exact ⟨m, h1, rfl⟩
theorem tick_back {k : Int} {s : Option (List UInt8)} {m : List UInt8} {n : Nat} (h : tickR k s = (some m, n)) : ∃ l, s = some l ∧ (if k = 5 then numb n else []) ++ m = l := by
  unfold tickR at h
  split at h
  · rename_i hk
    rw [if_pos hk]
    cases s with
    | none => have := sc_cnt_none 1099511627776; rw [h] at this; cases this
    | some l => exact ⟨l, rfl, sc_cnt_back h⟩
  · rename_i hk
    rw [if_neg hk]
    injection h with h1 _
    exact ⟨m, h1, rfl⟩
theorem many_back {k : Int} {s : Option (List UInt8)} {m : List UInt8} {n : Nat} (h : manyR k s = (some m, n)) : ∃ l, s = some l ∧ (if manyS k = true then numb n else []) ++ m = l := by
  unfold manyR at h
  split at h
  · rename_i hk
    rw [if_pos hk]
    cases s with
    | none => have := sc_cnt_none 24; rw [h] at this; cases this
    | some l => exact ⟨l, rfl, sc_cnt_back h⟩
  · rename_i hk
    rw [if_neg hk]
    split at h
    · injection h with h1 _; exact ⟨m, h1, rfl⟩
    · injection h with h1 _; exact ⟨m, h1, rfl⟩
theorem sc_get_put : ∀ (n : Nat) (l l' : List UInt8) (u : Ns (Sc n)), readSc n (some l) = (some l', u) → bytesS (n + 1) u ++ l' = l
  | 0, l, l', u, h => by rw [rs_zero] at h; injection h with h1 _; cases h1
  | n + 1, [], l', u, h => by rw [rs_nil] at h; injection h with h1 _; cases h1
  | n + 1, b :: l, l', u, h => by
    rw [rs_cons] at h
    injection h with h1 h2
    subst h2
    cases e1 : nameR (b.toNat : Int) (some l) with
    | mk s1 nm =>
      rw [e1] at h1
      dsimp only at h1 ⊢
      cases e2 : tickR (b.toNat : Int) s1 with
      | mk s2 t2 =>
        rw [e2] at h1
        dsimp only at h1 ⊢
        cases e3 : tickR (b.toNat : Int) s2 with
        | mk s3 t3 =>
          rw [e3] at h1
          dsimp only at h1 ⊢
          cases e4 : manyR (b.toNat : Int) s3 with
          | mk s4 n4 =>
            rw [e4] at h1
            dsimp only at h1 ⊢
            cases e5 : kidsR (readSc n) n4 s4 with
            | mk s5 ks =>
              rw [e5] at h1
              dsimp only at h1 ⊢
              subst h1
              cases s4 with
              | none => rw [kidsR_none] at e5; injection e5 with e _; cases e
              | some m4 =>
                obtain ⟨k5, k6⟩ := kidsR_bytes (B := bytesS (n + 1)) (fun l l' u h => sc_get_put n l l' u h) _ m4 l' ks e5
                obtain ⟨m3, rfl, k4⟩ := many_back e4
                obtain ⟨m2, rfl, k3⟩ := tick_back e3
                obtain ⟨m1, rfl, k2⟩ := tick_back e2
                obtain ⟨m0, hm0, k1⟩ := name_back e1
                injection hm0 with hm0
                subst hm0
                have hb2 : UInt8.ofNat ((b.toNat : Int) % 256).toNat = b := by
                  have hu := b.toNat_lt
                  apply UInt8.toNat_inj.1
                  simp; omega
                rw [bytesS_eq]
                unfold zheadS
                simp only [hb2, List.cons_append, List.append_assoc, Int.toNat_natCast, k6]
                rw [k5]
                congr 1
                by_cases h5 : (b.toNat : Int) = 5
                · rw [if_pos h5] at k2 k3 ⊢
                  rw [List.append_assoc, k4, k3, k2, k1]
                · rw [if_neg h5] at k2 k3 ⊢
                  simp only [List.nil_append] at k2 k3 ⊢
                  rw [k4, k3, k2, k1]
theorem kidsR_of {α β : Type} {g : Option (List UInt8) → Option (List UInt8) × β} {B : α → List UInt8} {R : α → β → Bool} :
    ∀ (ks : List α) (rest : List UInt8), (∀ t, t ∈ ks → ∀ rest, ∃ u, g (some (B t ++ rest)) = (some rest, u) ∧ R t u = true) →
      ∃ us, kidsR g ks.length (some ((ks.map B).flatten ++ rest)) = (some rest, us) ∧ sameSL R ks us = true
  | [], rest, h => ⟨[], rfl, rfl⟩
  | t :: ks, rest, h => by
    obtain ⟨u, hu, hr⟩ := h t (by simp) ((ks.map B).flatten ++ rest)
    obtain ⟨us, h1, h2⟩ := kidsR_of ks rest fun x hx => h x (by simp [hx])
    refine ⟨u :: us, ?_, by rw [sameSL, hr, h2]; rfl⟩
    rw [List.map_cons, List.flatten_cons, List.append_assoc, List.length_cons, kidsR, hu]
    dsimp only
    rw [h1]
theorem sc_put_get : ∀ (n f : Nat) (t : Sc f) (rest : List UInt8), okS f t n = true → nodesS f t ≤ 24 → ∃ u : Ns (Sc n), readSc n (some (bytesS f t ++ rest)) = (some rest, u) ∧ sameS f (n + 1) t u = true
  | n, 0, t, _, _, _ => nomatch t
  | 0, f + 1, (t : Ns (Sc f)), rest, h, _ => by
    rw [okS_eq] at h
    simp at h
  | n + 1, f + 1, (⟨k, nm, a, b, ks⟩ : Ns (Sc f)), rest, h, hn => by
    rw [okS_eq] at h
    simp only [Bool.and_eq_true, decide_eq_true_eq] at h
    obtain ⟨⟨_, h2⟩, h3⟩ := h
    rw [show ((n + 1 : Nat) : Int) - 1 = (n : Int) by omega] at h3
    obtain ⟨hk, hnm, hab, hks⟩ := (fits_iff _).1 h2
    dsimp only at hk hnm hab hks
    rw [nodesS_eq] at hn
    dsimp only at hn
    have hb : ((UInt8.ofNat (k % 256).toNat).toNat : Int) = k := by simp; omega
    obtain ⟨us, e5, hs⟩ := kidsR_of (g := readSc n) (B := bytesS f) (R := fun x y => sameS f (n + 1) x y) ks rest fun x hx rest => sc_put_get n f x rest (List.all_eq_true.1 h3 x hx) (by have := nodesS_kid f ks x hx; omega)
    have hkl : ks.length ≤ 24 := by have := nodesS_len f ks; omega
    have e1 : ∀ X, nameR k (some ((if namedS k = true then texb nm else []) ++ X)) = (some X, nm) := by
      intro X
      unfold nameR
      by_cases h5 : namedS k = true
      · rw [if_pos h5] at hnm
        rw [if_pos h5, if_pos h5]
        exact sc_txt_of ((name_iff nm).1 hnm).2.1 X
      · rw [if_neg h5] at hnm
        rw [if_neg h5, if_neg h5, of_decide_eq_true hnm]; rfl
    have e23 : ∀ X, ∃ Y, tickR k (some ((if k = 5 then numb a.toNat ++ numb b.toNat else []) ++ X)) = (some Y, a.toNat) ∧ tickR k (some Y) = (some X, b.toNat) ∧ ((a.toNat : Nat) : Int) = a ∧ ((b.toNat : Nat) : Int) = b := by
      intro X
      unfold tickR
      by_cases h5 : k = 5
      · rw [if_pos h5] at hab
        have hab := of_decide_eq_true hab
        refine ⟨numb b.toNat ++ X, ?_, ?_, by omega, by omega⟩
        · rw [if_pos h5, if_pos h5, List.append_assoc]; exact sc_cnt_of (by omega) (by omega) _
        · rw [if_pos h5]; exact sc_cnt_of (by omega) (by omega) _
      · rw [if_neg h5] at hab
        obtain ⟨rfl, rfl⟩ := of_decide_eq_true hab
        exact ⟨X, by rw [if_neg h5, if_neg h5]; rfl, by rw [if_neg h5]; rfl, rfl, rfl⟩
    have e4 : ∀ X, manyR k (some ((if manyS k = true then numb ks.length else []) ++ X)) = (some X, ks.length) := by
      intro X
      unfold manyR
      unfold kidsOk at hks
      by_cases h5 : manyS k = true
      · rw [if_pos h5, if_pos h5]
        exact sc_cnt_of (by omega) (by omega) _
      · rw [if_neg h5] at hks
        rw [if_neg h5, if_neg h5]
        by_cases h8 : k = 8
        · rw [if_pos h8] at hks
          rw [if_pos h8, of_decide_eq_true hks]; rfl
        · rw [if_neg h8] at hks
          rw [if_neg h8, of_decide_eq_true hks]; rfl
    have ebytes : bytesS (f + 1) (⟨k, nm, a, b, ks⟩ : Ns (Sc f)) ++ rest = UInt8.ofNat (k % 256).toNat :: ((if namedS k = true then texb nm else []) ++ ((if k = 5 then numb a.toNat ++ numb b.toNat else []) ++ ((if manyS k = true then numb ks.length else []) ++ ((ks.map (bytesS f)).flatten ++ rest)))) := by
      rw [bytesS_eq]
      unfold zheadS
      simp only [List.cons_append, List.append_assoc]
    obtain ⟨Y, e2, e3, ha, hb'⟩ := e23 ((if manyS k = true then numb ks.length else []) ++ ((ks.map (bytesS f)).flatten ++ rest))
    refine ⟨⟨k, nm, a, b, us⟩, ?_, sameS_parts.2 ⟨rfl, rfl, rfl, rfl, hs⟩⟩
    rw [ebytes, rs_cons, hb, e1]
    dsimp only
    rw [e2]
    dsimp only
    rw [e3]
    dsimp only
    rw [e4]
    dsimp only
    rw [e5, ha, hb']
theorem sc_there {f : Nat} {x : Sc f} (h : mayS f x = true) : (getSc (bytesS f x)).2 = 0 ∧ sameS f 9 x (getSc (bytesS f x)).1 = true := by
  have h' := h
  unfold mayS at h'
  rw [Bool.and_eq_true, decide_eq_true_eq] at h'
  obtain ⟨u, e, hs⟩ := sc_put_get 8 f x [] h'.1 h'.2
  rw [List.append_nil] at e
  unfold getSc
  rw [e, if_pos ⟨rfl, (zsame_may hs).symm.trans h⟩]
  exact ⟨rfl, hs⟩
theorem sc_back {b : List UInt8} (h : (getSc b).2 = 0) : mayS 9 (getSc b).1 = true ∧ bytesS 9 (getSc b).1 = b := by
  unfold getSc at h ⊢
  by_cases hc : (readSc 8 (some b)).1 = some [] ∧ mayS 9 (readSc 8 (some b)).2 = true
  · rw [if_pos hc]
    refine ⟨hc.2, ?_⟩
    have := sc_get_put 8 b [] (readSc 8 (some b)).2 (Prod.ext hc.1 rfl)
    rw [List.append_nil] at this
    exact this
  · rw [if_neg hc] at h; cases h
theorem sc_one {f : Nat} {x : Sc f} {b : List UInt8} (h : mayS f x = true) (hb : bytesS f x = b) : (getSc b).2 = 0 ∧ sameS f 9 x (getSc b).1 = true := hb ▸ sc_there h
theorem sc_none {b : List UInt8} (h : ¬ (getSc b).2 = 0) : getSc b = (zeroNs, 2) ∧ ∀ (f : Nat) (x : Sc f), mayS f x = true → bytesS f x ≠ b := by
  refine ⟨?_, fun f x hx e => h (sc_one hx e).1⟩
  unfold getSc at h ⊢
  split at h
  · exact absurd rfl h
  · rename_i hc; rw [if_neg hc]
end
end Go.Proofs.YtpeopkjmmmodpaaDoor
