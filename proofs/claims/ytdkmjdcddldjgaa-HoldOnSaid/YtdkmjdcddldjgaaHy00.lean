/-
  Mem: Own words for memory, over any program: a byte slice that reads as a list, a block that is known whole, a world of which one block alone has turned, and append onto a slice of the call's own. No condition; nothing of the dump is used here.
  TlvM: The plain mathematics of tlv: what bytes a number has, what number bytes have, what a reader answers. No condition; nothing of the dump is used here.
  NamM: Which names may be: plain (layer 12's P12.1). No condition; nothing of the dump is used here. (Taken out of InM.)
-/
import Derived.Below
import Derived.Laws.OwnMore
import Derived.Laws.Rows
import Derived.Deep.Draws
import Derived.Maps.AppendAt
import Derived.OwnWalk
import Derived.RegionTactic
import Derived.Lib.Hide
set_option linter.unusedVariables false
set_option maxRecDepth 100000
namespace Go.Proofs.Ytdkmjdcddldjgaa
section
open Go.RowKit
abbrev bv (b : UInt8) : Value := .int .u8 (b.toNat : Int)
def BS (w : World) (S : Nat → Prop) (v : Value) (l : List UInt8) : Prop :=
  ∃ A c, v = .slice A l.length c ∧ l.length ≤ c ∧ c ≤ maxLen ∧ (A = none → c = 0) ∧
    (0 < l.length → ∃ b o, A = some ⟨b, o, none⟩ ∧ S b ∧ b < w.heap.size ∧ ∀ j u, l[j]? = some u → w.cell? ⟨b, o + j, none⟩ = some (bv u))
section
variable {w w' : World} {S S' : Nat → Prop} {v : Value} {l : List UInt8}
theorem BS.nil (w : World) (S : Nat → Prop) : BS w S (.slice none 0 0) [] := ⟨none, 0, rfl, by simp, by simp [maxLen], fun _ => rfl, fun h => absurd h (by simp)⟩
theorem BS.keep (h : BS w S v l) (hs : w.heap.size ≤ w'.heap.size) (hk : ∀ b, S b → b < w.heap.size → w'.heap[b]? = w.heap[b]?) : BS w' S v l := by
  obtain ⟨A, c, e, hl, hc, hn, hx⟩ := h
  refine ⟨A, c, e, hl, hc, hn, fun h0 => ?_⟩
  obtain ⟨b, o, ea, sb, hb, hx⟩ := hx h0
  exact ⟨b, o, ea, sb, by omega, fun j u hu => (World.cell?_of_block (w := w) (hk b sb hb)).trans (hx j u hu)⟩
theorem BS.mono (h : BS w S v l) (hs : ∀ b, S b → S' b) : BS w S' v l := by
  obtain ⟨A, c, e, hl, hc, hn, hx⟩ := h
  refine ⟨A, c, e, hl, hc, hn, fun h0 => ?_⟩
  obtain ⟨b, o, ea, sb, r⟩ := hx h0
  exact ⟨b, o, ea, hs b sb, r⟩
theorem BS.lt (h : BS w S v l) : BS w (fun b => S b ∧ b < w.heap.size) v l := by
  obtain ⟨A, c, e, hl, hc, hn, hx⟩ := h
  refine ⟨A, c, e, hl, hc, hn, fun h0 => ?_⟩
  obtain ⟨b, o, ea, sb, hb, r⟩ := hx h0
  exact ⟨b, o, ea, ⟨sb, hb⟩, hb, r⟩
theorem BS.grown {row : Option Nat} (h : BS w S v l) (hg : w.grownBy w' row) (hr : ∀ g, row = some g → ¬ S g) : BS w' S v l :=
  h.keep hg.size fun b sb hb => hg.block b hb (fun e => hr b e.symm sb)
theorem BS.below {B : Nat} (h : BS w S v l) (hg : Below B w w') (hr : ∀ b, S b → b < B) : BS w' S v l :=
  h.keep hg.size fun b sb _ => hg.block b (hr b sb)
theorem BS.below' (h : BS w S v l) (hg : Below w.heap.size w w') : BS w' S v l :=
  h.keep hg.size fun b _ hb => hg.block b hb
theorem BS.past (hg : Below w.heap.size w w') (h : BS w S v l) : BS w' S v l := h.below' hg
theorem BS.alloc (h : BS w S v l) (o : Obj) : BS (w.alloc o) S v l :=
  h.keep (by simp) fun b _ hb => Below.heap_alloc w o b hb
theorem BS.setCell (h : BS w S v l) {p : Addr} (hp : ¬ S p.block) (u : Value) : BS (w.setCell p u) S v l :=
  h.keep (by simp [World.setCell]) fun b sb _ => Below.heap_setCell w p u b (fun e => hp (e ▸ sb))
theorem BS.drewN (h : BS w S v l) (n : Nat) : BS (w.drewN n) S v l := h
theorem BS.len (h : BS w S v l) : l.length ≤ maxLen := by
  obtain ⟨A, c, e, hl, hc, hn, hx⟩ := h
  exact Nat.le_trans hl hc
theorem BS.of_own {base e n : Nat} (h : w.ownsRow base e 1 v n (l.map bv)) : BS w (fun b => base ≤ b) v l := by
  obtain ⟨h1, h2⟩ := h
  have hn : n = l.length := by simpa using h1.symm
  subst hn
  rcases h2 with ⟨rfl, h0⟩ | ⟨g, cap, cur, rfl, hb, hg, hnc, hcm, hcs, htk⟩
  · obtain rfl : l = [] := List.eq_nil_of_length_eq_zero h0
    exact BS.nil w _
  · refine ⟨_, _, rfl, hnc, hcm, (fun h => by cases h), fun _ => ⟨g, 0, rfl, hb, (Array.getElem?_eq_some_iff.1 hg).1, fun j u hu => ?_⟩⟩
    rw [Nat.zero_add, cell_of_row w g j cur e (0, 0) hg]
    have : (l.map bv)[j]? = some (bv u) := by simp [hu]
    rw [← htk, List.getElem?_take] at this
    split at this
    · simpa using this
    · cases this
theorem BS.take {A : Option Addr} {n c : Nat} (h : BS w S (.slice A n c) l) (k : Nat) (hk : k ≤ l.length) : BS w S (.slice A k c) (l.take k) := by
  obtain ⟨A', c', e, hl, hc, hn, hx⟩ := h
  injection e with e1 e2 e3
  subst e1 e2 e3
  have hlen : (l.take k).length = k := by simp; omega
  refine ⟨A, c, by rw [hlen], by omega, hc, hn, fun h0 => ?_⟩
  obtain ⟨b, o, ea, sb, hb, hx⟩ := hx (by omega)
  exact ⟨b, o, ea, sb, hb, fun j u hu => hx j u (by
    rw [List.getElem?_take] at hu
    split at hu
    · exact hu
    · cases hu)⟩
theorem BS.drop {b o n c : Nat} (h : BS w S (.slice (some ⟨b, o, none⟩) n c) l) (k : Nat) (hk : k ≤ l.length) : BS w S (.slice (some (if c = k then ⟨b, o, none⟩ else ⟨b, o + k, none⟩)) (n - k) (c - k)) (l.drop k) := by
  obtain ⟨A', c', e, hl, hc, hn, hx⟩ := h
  injection e with e1 e2 e3
  subst e1 e2 e3
  refine ⟨some (if c = k then ⟨b, o, none⟩ else ⟨b, o + k, none⟩), c - k, by rw [List.length_drop], by rw [List.length_drop]; omega, by omega, (fun h => by cases h), fun h0 => ?_⟩
  rw [List.length_drop] at h0
  obtain ⟨b', o', ea, sb, hb, hx⟩ := hx (by omega)
  injection ea with ea
  injection ea with ea eo
  subst ea eo
  rw [if_neg (by omega)]
  refine ⟨b, o + k, rfl, sb, hb, fun j u hu => ?_⟩
  rw [Nat.add_assoc]
  exact hx (k + j) u (by rw [← hu, List.getElem?_drop])
theorem BS.at_ {A : Option Addr} {n c : Nat} (h : BS w S (.slice A n c) l) (hp : 0 < l.length) :
    ∃ b o, A = some ⟨b, o, none⟩ ∧ S b ∧ b < w.heap.size ∧ ∀ j u, l[j]? = some u → w.cell? ⟨b, o + j, none⟩ = some (.int .u8 (u.toNat : Int)) := by
  obtain ⟨A', c', e, hl, hc, hn, hx⟩ := h
  injection e with e1 e2 e3
  subst e1
  exact hx hp
theorem BS.form (h : BS w S v l) : ∃ A c, v = .slice A l.length c ∧ l.length ≤ c ∧ c ≤ maxLen ∧ (A = none → c = 0) := by
  obtain ⟨A, c, e, hl, hc, hn, hx⟩ := h
  exact ⟨A, c, e, hl, hc, hn⟩
theorem BS.news {b o c n : Nat} (h : BS w S (.slice (some ⟨b, o, none⟩) n c) l) : ∀ j u, (l.map bv)[j]? = some u → w.cell? ((⟨b, o, none⟩ : Addr).add j) = some u := by
  intro j u hu
  have hj : j < l.length := by
    have := (List.getElem?_eq_some_iff.1 hu).1
    simpa using this
  obtain ⟨b', o', ea, sb, hb, hx⟩ := h.at_ (by omega)
  injection ea with ea
  injection ea with ea eo
  subst ea eo
  rw [List.getElem?_map] at hu
  cases hl : l[j]? with
  | none => rw [hl] at hu; cases hu
  | some y =>
    rw [hl] at hu
    simp only [Option.map_some, Option.some.injEq] at hu
    subst hu
    rw [Addr.add_lit]
    exact hx j y hl
end
def KB (w : World) (g : Nat) (t : TypeId) (cs : Array Value) : Prop := w.heap[g]? = some (.cells cs t (0, 0))
section
variable {w w' : World} {g : Nat} {t : TypeId} {cs : Array Value}
theorem KB.lt (h : KB w g t cs) : g < w.heap.size := (Array.getElem?_eq_some_iff.1 h).1
theorem KB.cell (h : KB w g t cs) (i : Nat) : w.cell? ⟨g, i, none⟩ = cs[i]? := cell_of_row w g i cs t (0, 0) h
theorem KB.free (h : KB w g t cs) (i : Nat) : w.frozen? ⟨g, i, none⟩ = false := frozen_of_row w g i cs t h
theorem KB.keep (h : KB w g t cs) (hk : w'.heap[g]? = w.heap[g]?) : KB w' g t cs := hk.trans h
theorem KB.grown {row : Option Nat} (h : KB w g t cs) (hg : w.grownBy w' row) (hr : row ≠ some g) : KB w' g t cs := h.keep (hg.block g h.lt fun e => hr e.symm)
theorem KB.below {B : Nat} (h : KB w g t cs) (hg : Below B w w') (hr : g < B) : KB w' g t cs := h.keep (hg.block g hr)
theorem KB.alloc (h : KB w g t cs) (o : Obj) : KB (w.alloc o) g t cs := h.keep (Below.heap_alloc w o g h.lt)
theorem KB.new (w : World) (t : TypeId) (cs : Array Value) : KB (w.alloc (.cells cs t)) w.heap.size t cs := heap_alloc_new w _
theorem KB.put (h : KB w g t cs) (i : Nat) (u : Value) : KB (w.setCell ⟨g, i, none⟩ u) g t (cs.setIfInBounds i u) := by
  unfold KB at h ⊢
  simp [World.setCell, Array.getElem?_modify, h]
theorem KB.drewN (h : KB w g t cs) (n : Nat) : KB (w.drewN n) g t cs := h
end
theorem grown_of_below {w w' : World} (h : Below w.heap.size w w') (row : Option Nat) : w.grownBy w' row :=
  ⟨h.os, h.tape, h.output, h.size, fun k hk _ => h.block k hk⟩
theorem below_of_grown {w w' : World} (h : w.grownBy w' none) : Below w.heap.size w w' :=
  ⟨h.os, h.tape, h.output, h.size, fun k hk => h.block k hk (by simp)⟩
theorem below_of_grown' {w w' : World} {g B : Nat} (h : w.grownBy w' (some g)) (hg : B ≤ g) (hB : B ≤ w.heap.size) : Below B w w' :=
  ⟨h.os, h.tape, h.output, h.size, fun k hk => h.block k (by omega) (by simp; omega)⟩
theorem grown_trans {a b c : World} {row : Option Nat} (h : a.grownBy b row) (k : b.grownBy c row) : a.grownBy c row :=
  ⟨k.os.trans h.os, k.tape.trans h.tape, k.output.trans h.output, Nat.le_trans h.size k.size, fun i hi hr => (k.block i (Nat.lt_of_lt_of_le hi h.size) hr).trans (h.block i hi hr)⟩
theorem grown_set (w : World) (g i : Nat) (u : Value) : w.grownBy (w.setCell ⟨g, i, none⟩ u) (some g) :=
  ⟨rfl, rfl, rfl, by simp [World.setCell], fun k _ hr => Below.heap_setCell w _ u k (fun e => hr (by rw [e]))⟩
theorem Below_drawn {B : Nat} {a w : World} (h : Below B a w) (n : Nat) : Below B a (w.drewN n) := ⟨h.os, h.tape, h.output, h.size, h.block⟩
theorem own_past {w w' : World} {base e size n : Nat} {v : Value} {xs : List Value} (hg : Below w.heap.size w w') (h : w.ownsRow base e size v n xs) : w'.ownsRow base e size v n xs :=
  h.kept (grown_of_below hg none) (by cases v.ownBlock <;> simp)
theorem bytes_one (l : List UInt8) : ∀ u ∈ l.map bv, u.oneCell' = true := by
  intro u hu
  obtain ⟨b, _, rfl⟩ := List.mem_map.1 hu
  rfl
theorem run_grow {P : Program} (w : World) (base : Nat) (t ty e : TypeId) (i : TypeInfo) (ht : P.underlying t = some (.slice e)) (hi : P.info? e = some i) (hz : i.zero = some (.int .u8 0))
    (hsize : i.size = 1) (hby : i.bytes = 1) (v : Value) (xs : List UInt8) (hown : w.ownsRow base e 1 v xs.length (xs.map bv))
    (S : Nat → Prop) (x : Value) (ys : List UInt8) (hx : BS w S x ys) (hb : xs.length + ys.length ≤ 140737488355328) (hbase : base ≤ w.heap.size) :
    ∃ v' w', (Builtin.append_ #[t, t] ty #[v, x]).run P w = .ok v' w' ∧ w'.ownsRow base e 1 v' (xs ++ ys).length ((xs ++ ys).map bv) ∧ w.grownBy w' v.ownBlock ∧
      (v'.ownBlock = v.ownBlock ∨ v'.ownBlock = some w.heap.size) := by
  obtain ⟨A, c, rfl, hl, hc, hn, hcell⟩ := hx
  rcases A with _ | ad
  · obtain rfl := hn rfl
    have h0 : ys = [] := List.eq_nil_of_length_eq_zero (by omega)
    subst h0
    exact ⟨v, w, run_append_owned_none w base t ty e i 1 ht hi v _ _ hown, by simpa using hown, World.grownBy.refl w _, .inl rfl⟩
  · have hnews : ∀ j u, (ys.map bv)[j]? = some u → w.cell? (ad.add j) = some u := by
      intro j u hu
      have hj : 0 < ys.length := by
        have := (List.getElem?_eq_some_iff.1 hu).1
        simp at this
        omega
      obtain ⟨b, o, ea, _⟩ := hcell hj
      injection ea with ea
      subst ea
      exact BS.news (S := S) ⟨_, _, rfl, hl, hc, hn, hcell⟩ j u hu
    obtain ⟨v', w', h1, h2, h3, _, h5⟩ := run_append_own_at (P := P) w base t ty e i _ 1 1 ht hi hz hsize hby rfl (by omega) v xs.length _ hown ad ys.length c (ys.map bv) (by simp) hnews (bytes_one ys)
      (by unfold maxLen; omega) (by omega) hbase
    exact ⟨v', w', h1, by simpa using h2, h3, h5⟩
theorem wpList_grow {P : Program} (w : World) {ops : Array Oper} {rest : List Oper} {o : Oper} {a : Act} {Q : Exit → Act → World → Prop} (hgd : o.guard = none) (s x : Operand) (t : TypeId)
    (ho : o.op = .call { callee := .builtin .append, args := #[s, x], argTypes := #[t, t] })
    (base : Nat) (e : TypeId) (i : TypeInfo) (ht : P.underlying t = some (.slice e)) (hi : P.info? e = some i) (hz : i.zero = some (.int .u8 0))
    (hsize : i.size = 1) (hby : i.bytes = 1) (v : Value) (xs : List UInt8) (hs : a.eval s = v) (hown : w.ownsRow base e 1 v xs.length (xs.map bv))
    (S : Nat → Prop) (xv : Value) (ys : List UInt8) (hxe : a.eval x = xv) (hx : BS w S xv ys) (hb : xs.length + ys.length ≤ 140737488355328) (hbase : base ≤ w.heap.size)
    (h : ∀ v' w', w'.ownsRow base e 1 v' (xs ++ ys).length ((xs ++ ys).map bv) → w.grownBy w' v.ownBlock → (v'.ownBlock = v.ownBlock ∨ v'.ownBlock = some w.heap.size) → wpList P ops Q rest (a.put o.dst v') w') :
    wpList P ops Q (o :: rest) a w := by
  refine wpList_plain hgd fun K hK => ?_
  obtain ⟨v', w', hrun, h2, h3, h4⟩ := run_grow (P := P) w base t o.type e i ht hi hz hsize hby v xs hown S xv ys hx hb hbase
  unfold Oper.wp execOp
  simp only [ho, resolve, invoke, builtin, Sem.run_bind, Sem.run_pure, Result.andThen_ok, List.map_toArray, List.map_cons, List.map_nil, hs, hxe, hrun]
  exact hK _ _ (h v' w' h2 h3 h4)
def LS (w : World) (S : Nat → Prop) (v : Value) (ls : List (List UInt8)) : Prop :=
  ∃ A c, v = .slice A ls.length c ∧ ls.length ≤ c ∧ c ≤ maxLen ∧
    (0 < ls.length → ∃ b o, A = some ⟨b, o, none⟩ ∧ S b ∧ b < w.heap.size ∧ ∀ j l, ls[j]? = some l → ∃ x, w.cell? ⟨b, o + j, none⟩ = some x ∧ BS w S x l)
section
variable {w w' : World} {S S' : Nat → Prop} {v : Value} {ls : List (List UInt8)}
theorem LS.keep (h : LS w S v ls) (hs : w.heap.size ≤ w'.heap.size) (hk : ∀ b, S b → b < w.heap.size → w'.heap[b]? = w.heap[b]?) : LS w' S v ls := by
  obtain ⟨A, c, e, hl, hc, hx⟩ := h
  refine ⟨A, c, e, hl, hc, fun h0 => ?_⟩
  obtain ⟨b, o, ea, sb, hb, hx⟩ := hx h0
  refine ⟨b, o, ea, sb, by omega, fun j l hj => ?_⟩
  obtain ⟨x, h1, h2⟩ := hx j l hj
  exact ⟨x, (World.cell?_of_block (w := w) (hk b sb hb)).trans h1, h2.keep hs hk⟩
theorem LS.mono (h : LS w S v ls) (hs : ∀ b, S b → S' b) : LS w S' v ls := by
  obtain ⟨A, c, e, hl, hc, hx⟩ := h
  refine ⟨A, c, e, hl, hc, fun h0 => ?_⟩
  obtain ⟨b, o, ea, sb, hb, hx⟩ := hx h0
  refine ⟨b, o, ea, hs b sb, hb, fun j l hj => ?_⟩
  obtain ⟨x, h1, h2⟩ := hx j l hj
  exact ⟨x, h1, h2.mono hs⟩
theorem LS.below' (h : LS w S v ls) (hg : Below w.heap.size w w') : LS w' S v ls := h.keep hg.size fun b _ hb => hg.block b hb
theorem LS.form (h : LS w S v ls) : ∃ A c, v = .slice A ls.length c ∧ ls.length ≤ c ∧ c ≤ maxLen := by
  obtain ⟨A, c, e, hl, hc, hx⟩ := h
  exact ⟨A, c, e, hl, hc⟩
theorem LS.at_ {A : Option Addr} {n c : Nat} (h : LS w S (.slice A n c) ls) (hp : 0 < ls.length) :
    ∃ b o, A = some ⟨b, o, none⟩ ∧ S b ∧ b < w.heap.size ∧ ∀ j l, ls[j]? = some l → ∃ A' c', w.cell? ⟨b, o + j, none⟩ = some (.slice A' l.length c') ∧ BS w S (.slice A' l.length c') l := by
  obtain ⟨A', c', e, hl, hc, hx⟩ := h
  injection e with e1 e2 e3
  subst e1
  obtain ⟨b, o, ea, sb, hb, hx⟩ := hx hp
  refine ⟨b, o, ea, sb, hb, fun j l hj => ?_⟩
  obtain ⟨x, h1, h2⟩ := hx j l hj
  obtain ⟨A', c', rfl, _⟩ := h2.form
  exact ⟨A', c', h1, h2⟩
theorem LS.two {x y : Value} {l m : List UInt8} {t : TypeId} (hx : BS w S x l) (hy : BS w S y m) :
    LS (w.alloc (.cells #[x, y] t)) (fun b => S b ∨ b = w.heap.size) (.slice (some ⟨w.heap.size, 0, none⟩) 2 2) [l, m] := by
  refine ⟨_, 2, rfl, by simp, by simp [maxLen], fun _ => ⟨w.heap.size, 0, rfl, .inr rfl, by simp, fun j l' hj => ?_⟩⟩
  have hk := KB.new w t #[x, y]
  match j, hj with
  | 0, hj => simp at hj; subst hj; exact ⟨x, hk.cell 0, (hx.alloc _).mono fun b h => .inl h⟩
  | 1, hj => simp at hj; subst hj; exact ⟨y, hk.cell 1, (hy.alloc _).mono fun b h => .inl h⟩
theorem LS.three {x y z : Value} {l m n : List UInt8} {t : TypeId} (hx : BS w S x l) (hy : BS w S y m) (hz : BS w S z n) :
    LS (w.alloc (.cells #[x, y, z] t)) (fun b => S b ∨ b = w.heap.size) (.slice (some ⟨w.heap.size, 0, none⟩) 3 3) [l, m, n] := by
  refine ⟨_, 3, rfl, by simp, by simp [maxLen], fun _ => ⟨w.heap.size, 0, rfl, .inr rfl, by simp, fun j l' hj => ?_⟩⟩
  have hk := KB.new w t #[x, y, z]
  match j, hj with
  | 0, hj => simp at hj; subst hj; exact ⟨x, hk.cell 0, (hx.alloc _).mono fun b h => .inl h⟩
  | 1, hj => simp at hj; subst hj; exact ⟨y, hk.cell 1, (hy.alloc _).mono fun b h => .inl h⟩
  | 2, hj => simp at hj; subst hj; exact ⟨z, hk.cell 2, (hz.alloc _).mono fun b h => .inl h⟩
end
theorem BS.lit (w : World) (t : TypeId) (l : List UInt8) (hl : l.length ≤ maxLen) (fr : Nat × Nat := (0, 0)) : BS (w.alloc (.cells (l.map bv).toArray t fr)) (fun b => w.heap.size ≤ b) (.slice (some ⟨w.heap.size, 0, none⟩) l.length l.length) l := by
  refine ⟨_, _, rfl, Nat.le_refl _, hl, (fun h => by cases h), fun _ => ⟨w.heap.size, 0, rfl, Nat.le_refl _, by simp, fun j u hu => ?_⟩⟩
  rw [Nat.zero_add, cell_of_row _ w.heap.size j _ t fr (heap_alloc_new w _)]
  simp [hu]
end
section
def val : List UInt8 → Nat
  | [] => 0
  | b :: l => b.toNat * 256 ^ l.length + val l
theorem val_lt (l : List UInt8) : val l < 256 ^ l.length := by
  induction l with
  | nil => simp [val]
  | cons b l ih =>
    have hb := b.toNat_lt
    have h1 : b.toNat * 256 ^ l.length ≤ 255 * 256 ^ l.length := Nat.mul_le_mul_right _ (by omega)
    simp only [val, List.length_cons, Nat.pow_succ]
    omega
theorem val_snoc (l : List UInt8) (b : UInt8) : val (l ++ [b]) = val l * 256 + b.toNat := by
  induction l with
  | nil => simp [val]
  | cons c l ih =>
    simp only [List.cons_append, val, ih, List.length_append, List.length_cons, List.length_nil, Nat.zero_add, Nat.pow_succ, Nat.add_mul, Nat.mul_assoc]
    omega
theorem val_take_succ (l : List UInt8) (k : Nat) (h : k < l.length) : val (l.take (k + 1)) = val (l.take k) * 256 + (l[k]).toNat := by
  rw [List.take_succ_eq_append_getElem h, val_snoc]
theorem val_lt_eight (l : List UInt8) (h : l.length ≤ 8) : val l < 18446744073709551616 :=
  Nat.lt_of_lt_of_le (val_lt l) (Nat.le_trans (Nat.pow_le_pow_right (by omega) h) (by decide))
theorem val_lt_seven (l : List UInt8) (h : l.length ≤ 7) : val l < 72057594037927936 :=
  Nat.lt_of_lt_of_le (val_lt l) (Nat.le_trans (Nat.pow_le_pow_right (by omega) h) (by decide))
def dig : Nat → Nat → List UInt8
  | 0, _ => []
  | f + 1, n => if n = 0 then [] else dig f (n / 256) ++ [UInt8.ofNat (n % 256)]
def numb (n : Nat) : List UInt8 := UInt8.ofNat (dig 8 n).length :: dig 8 n
def texb (l : List UInt8) : List UInt8 := numb l.length ++ l
theorem dig_length_le (f n : Nat) : (dig f n).length ≤ f := by
  induction f generalizing n with
  | zero => simp [dig]
  | succ f ih =>
    simp only [dig]
    split
    · simp
    · have := ih (n / 256)
      simp
      omega
theorem dig_val (f n : Nat) (h : n < 256 ^ f) : val (dig f n) = n := by
  induction f generalizing n with
  | zero => simp at h; subst h; rfl
  | succ f ih =>
    simp only [dig]
    split
    · rename_i h0; subst h0; rfl
    · rw [val_snoc, ih (n / 256) (by rw [Nat.pow_succ] at h; omega)]
      have : (UInt8.ofNat (n % 256)).toNat = n % 256 := by simp
      omega
theorem dig_head (f n : Nat) (h : n < 256 ^ f) : (dig f n).head? ≠ some 0 := by
  induction f generalizing n with
  | zero => simp [dig]
  | succ f ih =>
    simp only [dig]
    split
    · simp
    · rename_i h0
      have hd := ih (n / 256) (by rw [Nat.pow_succ] at h; omega)
      by_cases hq : n / 256 = 0
      · have e : dig f (n / 256) = [] := by rw [hq]; cases f <;> simp [dig]
        rw [e]
        simp only [List.nil_append, List.head?_cons, ne_eq, Option.some.injEq]
        intro hx
        have := congrArg UInt8.toNat hx
        simp at this
        omega
      · cases hq' : dig f (n / 256) with
        | nil =>
          have hv := dig_val f (n / 256) (by rw [Nat.pow_succ] at h; omega)
          rw [hq'] at hv
          simp [val] at hv
          omega
        | cons x l =>
          rw [hq'] at hd
          simpa using hd
theorem dig_of_val (f : Nat) (l : List UInt8) (hl : l.length ≤ f) (h0 : l.head? ≠ some 0) : dig f (val l) = l := by
  induction f generalizing l with
  | zero =>
    have : l = [] := List.eq_nil_of_length_eq_zero (by omega)
    subst this; rfl
  | succ f ih =>
    rcases List.eq_nil_or_concat l with rfl | ⟨m, b, rfl⟩
    · simp [val, dig]
    · rw [List.concat_eq_append] at *
      have hb := b.toNat_lt
      rw [val_snoc]
      have hne : val m * 256 + b.toNat ≠ 0 := by
        intro hz
        cases m with
        | nil =>
          simp [val] at hz
          apply h0
          simp
          exact UInt8.toNat_inj.1 (by simpa using hz)
        | cons c m =>
          have hc : c.toNat = 0 := by
            simp only [val] at hz
            have hp : 0 < 256 ^ m.length := Nat.pow_pos (by omega)
            rcases Nat.eq_zero_or_pos c.toNat with h | h
            · exact h
            · have := Nat.mul_pos h hp; omega
          apply h0
          simp
          exact UInt8.toNat_inj.1 (by simpa using hc)
      simp only [dig, if_neg hne]
      rw [show (val m * 256 + b.toNat) / 256 = val m by omega, show (val m * 256 + b.toNat) % 256 = b.toNat by omega, ih m (by simp at hl; omega) (by
        cases m with
        | nil => simp
        | cons c m => simpa using h0)]
      simp
def numOf : Option (List UInt8) → Option (List UInt8) × Nat
  | some (h :: t) => if 8 < h.toNat ∨ t.length < h.toNat ∨ (t.take h.toNat).head? = some 0 then (none, 0) else (some (t.drop h.toNat), val (t.take h.toNat))
  | _ => (none, 0)
theorem numOf_lt (st : Option (List UInt8)) : (numOf st).2 < 18446744073709551616 := by
  unfold numOf
  split
  · split
    · simp
    · exact val_lt_eight _ (by simp; omega)
  · simp
theorem numOf_numb (n : Nat) (l : List UInt8) (h : n < 18446744073709551616) : numOf (some (numb n ++ l)) = (some l, n) := by
  have h1 := dig_length_le 8 n
  have h2 : (UInt8.ofNat (dig 8 n).length).toNat = (dig 8 n).length := by simp; omega
  have h3 : (dig 8 n ++ l).take (dig 8 n).length = dig 8 n := List.take_left
  have h4 : (dig 8 n ++ l).drop (dig 8 n).length = l := List.drop_left
  have h5 := dig_head 8 n (by simpa using h)
  simp only [numb, List.cons_append, numOf, h2, h3, h4]
  rw [if_neg (by simp; exact ⟨by omega, h5⟩), dig_val 8 n (by simpa using h)]
theorem numb_numOf (l l' : List UInt8) (n : Nat) (h : numOf (some l) = (some l', n)) : numb n ++ l' = l := by
  cases l with
  | nil => simp [numOf] at h
  | cons a t =>
    simp only [numOf] at h
    split at h
    · simp at h
    · rename_i hc
      simp only [Prod.mk.injEq, Option.some.injEq] at h
      obtain ⟨rfl, rfl⟩ := h
      have e := dig_of_val 8 (t.take a.toNat) (by simp; omega) (fun e => hc (.inr (.inr e)))
      have e2 : (t.take a.toNat).length = a.toNat := by simp; omega
      simp only [numb, e, e2, List.cons_append, List.take_append_drop]
      congr 1
      simp
def passed (n : Int) (st : Option (List UInt8)) : Option (List UInt8) × List UInt8 :=
  if n < 0 ∨ (st.getD []).length < n then (none, []) else (st.map (·.drop n.toNat), (st.getD []).take n.toNat)
def cntOf (most : Int) (st : Option (List UInt8)) : Option (List UInt8) × Nat :=
  if most < 0 ∨ most < (numOf st).2 then (none, 0) else numOf st
def txtOf (most : Int) (st : Option (List UInt8)) : Option (List UInt8) × List UInt8 := passed (cntOf most st).2 (cntOf most st).1
def u64 (i : Int) : Nat := (i % 18446744073709551616).toNat
end
section
def okc (c : Nat) : Bool := (decide (97 ≤ c) && decide (c ≤ 122)) || (decide (48 ≤ c) && decide (c ≤ 57)) || decide (c = 46) || decide (c = 45) || decide (c = 95)
def nameS (l : List UInt8) : Bool := decide (1 ≤ l.length) && decide (l.length ≤ 16) && l.all fun b => okc b.toNat
theorem name_iff (l : List UInt8) : nameS l = true ↔ 1 ≤ l.length ∧ l.length ≤ 16 ∧ ∀ b ∈ l, okc b.toNat = true := by
  unfold nameS
  simp only [Bool.and_eq_true, decide_eq_true_eq, and_assoc, List.all_eq_true]
theorem name_ex : nameS [97, 45, 49, 46, 120] = true := by decide +kernel
theorem name_ex2 : nameS [65] = false := by decide +kernel
end
end Go.Proofs.Ytdkmjdcddldjgaa
