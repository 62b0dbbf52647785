/-
  ScD: Blocks of five cells, kids so far in rows of a call's own, what five stores keep: what the walks of the document's Read (layer 20) and of its reading of words (layer 21) rest on. No condition.
  WtG: What the document's reading of words hands back (layer 21): a scope of five cells, the state behind it; and its time, over the loaded program: its contract. No condition but the sizes that it names.
  WuM: Plain mathematics of layer 21 (writ), as the program goes: the number that a word tells as it is written: strconv.Atoi and strconv.Itoa beside the document's thirteen digits; rows of texts joined. No program. No condition.
  WvB: strconv.Atoi, and the program's tick (layer 21), over the loaded program: each one's contract. No condition but that the library's table of powers of ten and its two errors are as laid, and the sizes that each contract names.
  WvT: What the listed variables give the walks of layer 21: the library's table of powers of ten is as laid, its two errors of numbers are errors. No condition.
-/
import Derived.Test.YtjecjlhofnnnpaaGreatDoorWy05
import Derived.Test.YtjecjlhofnnnpaaGreatDoorWy06
import Derived.Test.YtjecjlhofnnnpaaGreatDoorWy04
import Derived.Lib.AtoiTie
import Derived.Lib.Join
import Derived.Lib.IndexLaws
import Derived.Lib.SplitLaws
import Derived.Test.YtjecjlhofnnnpaaGreatDoorWy01
import Derived.Test.YtjecjlhofnnnpaaGreatDoorLayC
import Derived.Shelf.Strconv.ErrVarAll
import Derived.BigQuiet
import Derived.Test.YtjecjlhofnnnpaaGreatDoorRows
import Derived.ProofKit
import Derived.LaidMore
import Derived.OpenShut
import Derived.FnData
import Derived.Stop.LaidErr
set_option linter.unusedVariables false
set_option maxRecDepth 100000
namespace Go.Proofs.YtjecjlhofnnnpaaGreatDoor
section
open Go.RowKit
theorem zput_five {w : World} {g : Nat} {t : TypeId} {a b c d e x y z u v : Value} (h : KB w g t #[a, b, c, d, e]) : KB (((((w.setCell ⟨g, 0, none⟩ x).setCell ⟨g, 1, none⟩ y).setCell ⟨g, 2, none⟩ z).setCell ⟨g, 3, none⟩ u).setCell ⟨g, 4, none⟩ v) g t #[x, y, z, u, v] :=
  ((((h.put 0 x).put 1 y).put 2 z).put 3 u).put 4 v
theorem zgrown_five (w : World) (g : Nat) (x y z u v : Value) : w.grownBy (((((w.setCell ⟨g, 0, none⟩ x).setCell ⟨g, 1, none⟩ y).setCell ⟨g, 2, none⟩ z).setCell ⟨g, 3, none⟩ u).setCell ⟨g, 4, none⟩ v) (some g) :=
  grown_trans (grown_trans (grown_trans (grown_trans (grown_set _ _ _ _) (grown_set _ _ _ _)) (grown_set _ _ _ _)) (grown_set _ _ _ _)) (grown_set _ _ _ _)
theorem zKB_far {w : World} {g h i : Nat} {t : TypeId} {cs : Array Value} {v : Value} (k : KB w g t cs) (hne : h ≠ g) : KB (w.setCell ⟨h, i, none⟩ v) g t cs :=
  k.keep (Below.heap_setCell w ⟨h, i, none⟩ v g hne.symm)
theorem zgrown_new {a b c : World} {row : Option Nat} {h : Nat} (p : a.grownBy b row) (q : b.grownBy c (some h)) (hh : a.heap.size ≤ h) : a.grownBy c row :=
  ⟨q.os.trans p.os, q.tape.trans p.tape, q.output.trans p.output, Nat.le_trans p.size q.size, fun k hk hr => (q.block k (Nat.lt_of_lt_of_le hk p.size) (by simp; omega)).trans (p.block k hk hr)⟩
theorem zgrown_newX {a b c : World} {row row2 : Option Nat} (p : a.grownBy b row) (q : b.grownBy c row2) (hh : ∀ x, row2 = some x → a.heap.size ≤ x) : a.grownBy c row :=
  ⟨q.os.trans p.os, q.tape.trans p.tape, q.output.trans p.output, Nat.le_trans p.size q.size, fun k hk hr => (q.block k (Nat.lt_of_lt_of_le hk p.size) (fun e => by have := hh k e.symm; omega)).trans (p.block k hk hr)⟩
theorem zsets_size (w : World) (g : Nat) (x y z u v : Value) : w.heap.size = (((((w.setCell ⟨g, 0, none⟩ x).setCell ⟨g, 1, none⟩ y).setCell ⟨g, 2, none⟩ z).setCell ⟨g, 3, none⟩ u).setCell ⟨g, 4, none⟩ v).heap.size := by simp [World.setCell]
theorem zsets_block (w : World) (g b : Nat) (x y z u v : Value) (h : b ≠ g) : (((((w.setCell ⟨g, 0, none⟩ x).setCell ⟨g, 1, none⟩ y).setCell ⟨g, 2, none⟩ z).setCell ⟨g, 3, none⟩ u).setCell ⟨g, 4, none⟩ v).heap[b]? = w.heap[b]? :=
  (Below.heap_setCell _ ⟨g, 4, none⟩ v b h).trans ((Below.heap_setCell _ ⟨g, 3, none⟩ u b h).trans ((Below.heap_setCell _ ⟨g, 2, none⟩ z b h).trans ((Below.heap_setCell _ ⟨g, 1, none⟩ y b h).trans (Below.heap_setCell w ⟨g, 0, none⟩ x b h))))
theorem zown_form {w : World} {B e size n : Nat} {v : Value} {xs : List Value} (h : w.ownsRow B e size v n xs) : ∃ A c, v = .slice A n c := by
  obtain ⟨_, h2⟩ := h
  rcases h2 with ⟨rfl, rfl⟩ | ⟨g', c, cur, rfl, _⟩
  · exact ⟨none, 0, rfl⟩
  · exact ⟨_, c, rfl⟩
theorem zown_lt {w : World} {B e size n : Nat} {v : Value} {xs : List Value} (h : w.ownsRow B e size v n xs) (k : Nat) (hk : v.ownBlock = some k) : k < w.heap.size := by
  obtain ⟨_, h2⟩ := h
  rcases h2 with ⟨rfl, _⟩ | ⟨g', c, cur, rfl, _, hg, _⟩
  · simp [Value.ownBlock] at hk
  · simp [Value.ownBlock] at hk
    subst hk
    exact (Array.getElem?_eq_some_iff.1 hg).1
theorem zown_ge {w : World} {B e size n : Nat} {v : Value} {xs : List Value} (h : w.ownsRow B e size v n xs) (k : Nat) (hk : v.ownBlock = some k) : B ≤ k := by
  obtain ⟨_, h2⟩ := h
  rcases h2 with ⟨rfl, _⟩ | ⟨g', c, cur, rfl, hb, _⟩
  · simp [Value.ownBlock] at hk
  · simp [Value.ownBlock] at hk
    omega
theorem zown_grown {w w' : World} {base e size n g : Nat} {v : Value} {xs : List Value} (h : w.ownsRow base e size v n xs) (hg : w.grownBy w' (some g)) (hb : g < base) : w'.ownsRow base e size v n xs :=
  h.kept hg (.inr (own_ne h hb))
theorem ZS.restrict {α : Type} {w : World} {S : Nat → Prop} {E E' : α → Value → Value → Value → Value → Value → Prop} {v : Value} {ks : List α} (h : ZS w S E v ks) (he : ∀ t c0 c1 c2 c3 c4, E t c0 c1 c2 c3 c4 → E' t c0 c1 c2 c3 c4) :
    ZS w (fun b => S b ∧ b < w.heap.size) E' v ks := by
  obtain ⟨A, c, e, hl, hc, hn, hx⟩ := h
  refine ⟨A, c, e, hl, hc, hn, fun h0 => ?_⟩
  obtain ⟨b, o, ea, sb, hb, hx⟩ := hx h0
  refine ⟨b, o, ea, ⟨sb, hb⟩, hb, fun i t hi => ?_⟩
  obtain ⟨c0, c1, c2, c3, c4, k0, k1, k2, k3, k4, ke⟩ := hx i t hi
  exact ⟨c0, c1, c2, c3, c4, k0, k1, k2, k3, k4, he _ _ _ _ _ _ ke⟩
theorem ZX.lt {w : World} {S : Nat → Prop} : ∀ (f : Nat) (t : Sc f) (c0 c1 c2 c3 c4 : Value), ZX w S f t c0 c1 c2 c3 c4 → ZX w (fun b => S b ∧ b < w.heap.size) f t c0 c1 c2 c3 c4
  | 0, t, _, _, _, _, _, _ => nomatch t
  | f + 1, (t : Ns (Sc f)), c0, c1, c2, c3, c4, h => by
    obtain ⟨h0, h1, h2, h3, h4, h5, h6, h7, h8⟩ := h
    exact ⟨h0, h1, h2, h3, h4, h5, h6, h7, h8.restrict fun u d0 d1 d2 d3 d4 hu => ZX.lt f u d0 d1 d2 d3 d4 hu⟩
theorem zread_ZV {wr w' : World} {B g6 d : Nat} {k fr to_ : Int} {nm : List UInt8} {ks : List (Sc (d + 1))} {qs : List QuZ} {kv : Value} (hI : I64 k) (hn : nm.length ≤ maxLen) (hf : I64 fr) (ht : I64 to_)
    (how : wr.ownsRow (g6 + 1) 24 5 kv qs.length (flatZ qs)) (hq : QZ wr (fun b => g6 < b) (d + 1) qs ks) (hB : B ≤ g6) (hs : wr.heap.size = w'.heap.size) (hk : ∀ b, g6 < b → w'.heap[b]? = wr.heap[b]?) :
    ZV w' (fun b => B ≤ b ∧ b < w'.heap.size) (d + 1 + 1) (.agg #[.int .i64 k, strV nm, .int .i64 fr, .int .i64 to_, kv]) (⟨k, nm, fr, to_, ks⟩ : Ns (Sc (d + 1))) := by
  have h : ZX wr (fun b => g6 < b) (d + 1 + 1) (⟨k, nm, fr, to_, ks⟩ : Ns (Sc (d + 1))) (.int .i64 k) (strV nm) (.int .i64 fr) (.int .i64 to_) kv := ⟨rfl, hI, rfl, hn, rfl, hf, rfl, ht, ZS_of_own how hq fun b hb _ => hb⟩
  exact ⟨_, _, _, _, _, rfl, ZX.keepS (ZX.lt _ _ _ _ _ _ _ h) (Nat.le_of_eq hs) (fun b hb _ => hk b hb.1) fun b hb => ⟨by omega, by omega⟩⟩
def SNZ (g6 : Nat) (w : World) (kv : Value) : Nat → Prop := fun b => g6 < b ∧ kv.ownBlock ≠ some b ∧ b < w.heap.size
theorem QZ.more {wr w5 w7 w8 : World} {g g6 d : Nat} {kv v7 : Value} {qs : List QuZ} {ks : List (Sc d)} {e0 e1 e2 e3 e4 : Value} {t : Sc d} {o : Obj} {B n e size : Nat} {xs : List Value} (hq : QZ wr (SNZ g6 wr kv) d qs ks) (tm : ZX w5 (fun b => wr.heap.size ≤ b ∧ b < w5.heap.size) d t e0 e1 e2 e3 e4)
    (how : wr.ownsRow B e size kv n xs) (G5 : wr.grownBy w5 (some g)) (hg : g < g6) (h6 : g6 < wr.heap.size) (hg7 : (w5.alloc o).grownBy w7 kv.ownBlock) (h7 : v7.ownBlock = kv.ownBlock ∨ v7.ownBlock = some (w5.alloc o).heap.size)
    (hs : w7.heap.size = w8.heap.size) (hk : ∀ b, b ≠ g6 → w8.heap[b]? = w7.heap[b]?) : QZ w8 (SNZ g6 w8 v7) d (qs ++ [(e0, e1, e2, e3, e4)]) (ks ++ [t]) := by
  have s5 := G5.size
  have s7 := hg7.size
  have sa : (w5.alloc o).heap.size = w5.heap.size + 1 := by simp
  have hkv := zown_lt how
  refine QZ.append ?_ ?_
  · refine hq.keepL (by omega) (fun b hb hlt => ?_) fun b hb _ => ?_
    · obtain ⟨b1, b2, b3⟩ := hb
      rw [hk b (by omega), hg7.block b (by omega) (fun e => b2 e.symm), Below.heap_alloc w5 o b (by omega), G5.block b hlt (by simp; omega)]
    · obtain ⟨b1, b2, b3⟩ := hb
      refine ⟨b1, ?_, by omega⟩
      rcases h7 with h | h
      · rw [h]; exact b2
      · rw [h]; simp; omega
  · refine (QZ.one tm).keepL (by omega) (fun b hb hlt => ?_) fun b hb _ => ?_
    · have hne : kv.ownBlock ≠ some b := fun e => by have := hkv b e; omega
      rw [hk b (by omega), hg7.block b (by omega) (fun e => hne e.symm), Below.heap_alloc w5 o b (by omega)]
    · have hne : kv.ownBlock ≠ some b := fun e => by have := hkv b e; omega
      refine ⟨by omega, ?_, by omega⟩
      rcases h7 with h | h
      · rw [h]; exact hne
      · rw [h]; simp; omega
theorem zero_ZV (w : World) (S : Nat → Prop) (f : Nat) : ZV w S (f + 1) (.agg #[.int .i64 0, .string ⟨#[]⟩, .int .i64 0, .int .i64 0, .slice none 0 0]) (zeroNs : Ns (Sc f)) := ⟨_, _, _, _, _, rfl, zeroZ w S f⟩
theorem step_growZ {ops : Array Oper} {o : Oper} {a : Act} {w : World} {K : Act → World → Prop} {Q : Exit → Act → World → Prop} {E : Prop} (hg : o.guard = none) (s x : Operand)
    (ho : o.op = .call { callee := .builtin .append, args := #[s, x], argTypes := #[22, 22] })
    (base : Nat) (v : Value) (qs : List QuZ) (hs : a.eval s = v) (hown : w.ownsRow base 24 5 v qs.length (flatZ qs))
    (ad : Addr) (c : Nat) (p : QuZ) (hxe : a.eval x = .slice (some ad) 1 c) (hx : ∀ j u, (fiveZ p)[j]? = some u → w.cell? (ad.add j) = some u) (h1 : ∀ u ∈ fiveZ p, u.oneCell' = true) (hb : qs.length ≤ 1000000000) (hbase : base ≤ w.heap.size)
    (hK : ∀ v' w', w'.ownsRow base 24 5 v' (qs ++ [p]).length (flatZ (qs ++ [p])) → w.grownBy w' v.ownBlock → (v'.ownBlock = v.ownBlock ∨ v'.ownBlock = some w.heap.size) → K (a.put o.dst v') w') :
    if Region.wanted o (yielded ops a.tmps) = true then Oper.wp Tryz.prog o a w K Q else E := by
  have hw : Region.wanted o (yielded ops a.tmps) = true := by simp [Region.wanted, hg]
  rw [if_pos hw]
  obtain ⟨v', w', hrun, h2, h3, h4⟩ := run_growZ w base v qs hown ad c p hx h1 hb hbase o.type
  unfold Oper.wp execOp
  simp only [ho, resolve, invoke, builtin, Sem.run_bind, Sem.run_pure, Result.andThen_ok, List.map_toArray, List.map_cons, List.map_nil, hs, hxe, hrun]
  exact hK _ _ h2 h3 h4
theorem At_newZ (w : World) (c0 c1 c2 c3 c4 : Value) (t : TypeId) : ∀ j u, (fiveZ (c0, c1, c2, c3, c4))[j]? = some u → (w.alloc (.cells #[c0, c1, c2, c3, c4] t)).cell? ((⟨w.heap.size, 0, none⟩ : Addr).add j) = some u := fun j u h => by
  have := (KB.new w t #[c0, c1, c2, c3, c4]).cell j
  have e : ((⟨w.heap.size, 0, none⟩ : Addr).add j) = ⟨w.heap.size, j, none⟩ := by rw [Go.WideShapes.add_plain, Nat.zero_add]
  rw [e, this]
  simpa [fiveZ] using h
end
section
open Go.RowKit
def FactV (w : World) (g : Nat) (S : Nat → Prop) (f : Nat) (o : Option (Sc f × List Wv)) (e : Ending) (w' : World) : Prop :=
  ∃ v x, e = .returned v ∧ SW w' g S (o.map (·.2)) ∧ ZV w' (fun b => w.heap.size ≤ b ∧ b < w'.heap.size) f v x ∧ (∀ p, o = some p → x = p.1) ∧ w.grownBy w' (some g)
theorem fact_five {w W : World} {g : Nat} {S : Nat → Prop} {f : Nat} {o : Option (Sc f × List Wv)} (x : Sc f) {c0 c1 c2 c3 c4 : Value} (R : SW W g S (o.map (·.2))) (hg : ¬ w.heap.size = g) (hS : ¬ S w.heap.size) (G : w.grownBy W (some g))
    (z : ZX W (fun b => w.heap.size < b ∧ b < W.heap.size) f x c0 c1 c2 c3 c4) (hx : ∀ p, o = some p → x = p.1) :
    FactV w g S f o (.returned (.agg #[c0, c1, c2, c3, c4])) (((((W.setCell ⟨w.heap.size, 0, none⟩ c0).setCell ⟨w.heap.size, 1, none⟩ c1).setCell ⟨w.heap.size, 2, none⟩ c2).setCell ⟨w.heap.size, 3, none⟩ c3).setCell ⟨w.heap.size, 4, none⟩ c4) :=
  ⟨_, x, rfl, ((((R.far hg hS).far hg hS).far hg hS).far hg hS).far hg hS, ⟨_, _, _, _, _, rfl, ZX.keepS z (Nat.le_of_eq (zsets_size _ _ _ _ _ _ _)) (fun b hb _ => zsets_block _ _ _ _ _ _ _ _ (by omega)) fun b hb => ⟨by omega, by rw [← zsets_size]; exact hb.2⟩⟩, hx,
    zgrown_new G (zgrown_five _ _ _ _ _ _ _) (Nat.le_refl _)⟩
theorem leaf_ZX (w : World) (S : Nat → Prop) (f : Nat) (op a b : Int) (n : Wv) (h0 : I64 op) (hn : n.length ≤ 1000) (ha : I64 a) (hb : I64 b) : ZX w S (f + 1) (leafS op n a b : Sc (f + 1)) (.int .i64 op) (strV n) (.int .i64 a) (.int .i64 b) (.slice none 0 0) :=
  ⟨rfl, h0, rfl, by unfold maxLen; show n.length ≤ _; omega, rfl, ha, rfl, hb, ZS.nil _ _ _⟩
theorem SW.word {w : World} {g : Nat} {S : Nat → Prop} {u : Wv} {l : List Wv} (h : SW w g S (some (u :: l))) : u.length ≤ 1000 := by
  obtain ⟨A, n, c, ws, h1, h2, h3, h4, h5⟩ := h
  obtain rfl := h5 _ rfl
  exact h4 u (List.mem_cons_self ..)
/-! What stands ahead of the first hyphen. -/
theorem cut_no : ∀ (n : Wv), (45 : UInt8) ∉ n → cutW n = none
  | [], _ => rfl
  | b :: l, h => by
    have hb : ¬ b = 45 := fun e => h (by rw [e]; exact List.mem_cons_self ..)
    rw [cutW, if_neg hb, cut_no l fun e => h (List.mem_cons_of_mem _ e)]
    rfl
def CI (n : Wv) (k : Nat) (a : Int) : Prop := (a = -1 ∧ (45 : UInt8) ∉ n.take k) ∨ (∃ j : Nat, a = j ∧ j < n.length ∧ cutW n = some (n.take j, n.drop (j + 1)))
theorem CI.start (n : Wv) : CI n 0 (-1) := .inl ⟨rfl, by simp⟩
theorem CI.next {n : Wv} {k : Nat} {y : UInt8} (h : CI n k (-1)) (hy : n[k]? = some y) (hn : y.toNat ≠ 45) : CI n (k + 1) (-1) := by
  rcases h with ⟨_, h⟩ | ⟨j, h, _⟩
  · refine .inl ⟨rfl, ?_⟩
    rw [List.take_add_one, hy, List.mem_append]
    rintro (hm | hm)
    · exact h hm
    · simp at hm
      exact hn (by rw [← hm]; rfl)
  · omega
theorem CI.found {n : Wv} {k : Nat} {y : UInt8} (h : CI n k (-1)) (hy : n[k]? = some y) (hn : y.toNat = 45) : CI n (k + 1) k := by
  have hk : k < n.length := (List.getElem?_eq_some_iff.1 hy).1
  have hy45 : y = 45 := UInt8.toNat.inj (by rw [hn]; rfl)
  rcases h with ⟨_, h⟩ | ⟨j, h, _⟩
  · refine .inr ⟨k, rfl, hk, ?_⟩
    have e : n = n.take k ++ 45 :: n.drop (k + 1) := by
      rw [List.getElem?_eq_getElem hk] at hy
      injection hy with hy
      rw [← hy45, ← hy, ← List.drop_eq_getElem_cons hk, List.take_append_drop]
    have := cut_at (n.take k) (n.drop (k + 1)) h
    rwa [← e] at this
  · omega
theorem CI.none_ {n : Wv} (h : CI n n.length (-1)) : timeW n = none := by
  rcases h with ⟨_, h⟩ | ⟨j, h, _⟩
  · rw [List.take_length] at h
    unfold timeW
    rw [cut_no n h]; rfl
  · omega
theorem numIT_lt (l : Wv) : -1 ≤ numIT (numT l) ∧ numIT (numT l) < 10000000000000 := by
  cases h : numT l with
  | none => exact ⟨Int.le_refl _, by show (-1 : Int) < _; omega⟩
  | some k =>
    unfold numT at h
    split at h
    · cases h
    · rename_i hn
      have := (numF_bounds l 0 k h).2
      have h2 := Nat.pow_le_pow_right (n := 10) (by decide) (show l.length ≤ 13 by omega)
      have : k < 10000000000000 := by omega
      show -1 ≤ (k : Int) ∧ (k : Int) < _
      omega
theorem time_bad {n p q : Wv} (hc : cutW n = some (p, q)) (h : numIT (numT p) < 0 ∨ numIT (numT q) < numIT (numT p) ∨ 1099511627776 < numIT (numT q)) : timeW n = none := by
  unfold timeW
  rw [hc]
  simp only [Option.bind_some]
  cases ha : numT p with
  | none => rfl
  | some a =>
    cases hb : numT q with
    | none => rfl
    | some b =>
      rw [ha, hb] at h
      simp only [Option.bind_some]
      rw [if_neg]
      unfold numIT at h
      dsimp only at h
      omega
theorem time_good {n p q : Wv} (hc : cutW n = some (p, q)) (h : ¬ (numIT (numT p) < 0 ∨ numIT (numT q) < numIT (numT p) ∨ 1099511627776 < numIT (numT q))) : ∃ a b : Nat, timeW n = some (a, b) ∧ numIT (numT p) = a ∧ numIT (numT q) = b := by
  unfold timeW
  rw [hc]
  simp only [Option.bind_some]
  cases ha : numT p with
  | none => rw [ha] at h; exact absurd (.inl (by show (-1 : Int) < 0; omega)) h
  | some a =>
    cases hb : numT q with
    | none => rw [ha, hb] at h; exact absurd (.inr (.inl (by show (-1 : Int) < (a : Int); omega))) h
    | some b =>
      rw [ha, hb] at h
      simp only [Option.bind_some]
      unfold numIT at h
      dsimp only at h
      exact ⟨a, b, if_pos (by omega), rfl, rfl⟩
def timeQ (f : Nat) : List Wv → Option (Sc (f + 1) × List Wv)
  | [] => none
  | n :: rest => (timeW n).map fun p => (leafS 5 [] (p.1 : Int) (p.2 : Int), rest)
end
section
open Go.Lib
theorem numF_back : ∀ (l : List UInt8) (k : Nat), numF 0 l = some k → l ≠ [] → (l.head? = some 48 → l.length = 1) → l = decDigits k := by
  intro l
  induction hn : l.length using Nat.strongRecOn generalizing l with
  | _ n ih =>
    intro k h hne h0
    rcases List.eq_nil_or_concat l with rfl | ⟨a, b, rfl⟩
    · exact absurd rfl hne
    · rw [List.concat_eq_append] at h hn h0 ⊢
      rw [numF_append] at h
      cases hq : numF 0 a with
      | none => rw [hq] at h; cases h
      | some m =>
        rw [hq] at h
        simp only [Option.bind_some, numF] at h
        by_cases hb : 48 ≤ b.toNat ∧ b.toNat ≤ 57
        · rw [if_pos hb] at h
          injection h with h
          have eb : b = UInt8.ofNat (48 + (b.toNat - 48)) := by
            apply UInt8.toNat.inj
            rw [digit_nat _ (by omega)]; omega
          by_cases ha : a = []
          · subst ha
            simp only [numF] at hq
            injection hq with hq
            have hk : k = b.toNat - 48 := by omega
            rw [hk, decDigits_one (by omega), ← eb]; rfl
          · have hl : a.length < n := by rw [← hn]; simp
            have ih2 := ih a.length hl a rfl m hq ha fun e => by
              cases a with
              | nil => exact absurd rfl ha
              | cons x a =>
                have := h0 (by simpa using e)
                simp at hn
                omega
            have hm : 1 ≤ m := by
              cases m with
              | succ m => omega
              | zero =>
                exfalso
                rw [decDigits_one (by omega)] at ih2
                have := h0 (by rw [ih2]; rfl)
                rw [ih2] at hl
                simp at hl
                omega
            have h10 : ¬ k < 10 := by omega
            rw [decDigits, dif_neg h10, show k / 10 = m from by omega, show k % 10 = b.toNat - 48 from by omega, ← eb, ← ih2]
        · rw [if_neg hb] at h; cases h
theorem dec_numF : ∀ (l : List UInt8) (n k : Nat), numF n l = some k → decFrom n l = some k
  | [], n, k, h => h
  | b :: l, n, k, h => by
    rw [numF] at h
    rw [decFrom]
    unfold digitVal
    split at h
    · rename_i hb
      rw [if_pos hb]
      dsimp only
      rw [Nat.mul_comm n 10]
      exact dec_numF l _ k h
    · cases h
def tickW (l : Wv) : Option Nat := (numT l).bind fun k => if k ≤ 1099511627776 then some k else none
theorem tick_iff (l : Wv) (k : Nat) : tickW l = some k ↔ numT l = some k ∧ k ≤ 1099511627776 := by
  unfold tickW
  cases numT l with
  | none => simp
  | some m =>
    simp only [Option.bind_some]
    constructor
    · intro h
      split at h
      · injection h with h; subst h; exact ⟨rfl, by omega⟩
      · cases h
    · rintro ⟨h1, h2⟩
      injection h1 with h1
      subst h1
      rw [if_pos h2]
theorem tick_digits {l : Wv} {k : Nat} (h : tickW l = some k) : l = decDigits k ∧ atoiAll l = .ok (k : Int) := by
  obtain ⟨h1, h2⟩ := (tick_iff l k).1 h
  unfold numT at h1
  split at h1
  · cases h1
  · rename_i hc
    have hl : l ≠ [] := fun e => by subst e; simp at hc
    have e := numF_back l k h1 hl fun e => by
      cases hx : decide (1 < l.length) with
      | true => exact absurd ⟨e, of_decide_eq_true hx⟩ fun h => hc (.inr (.inr h))
      | false =>
        have := of_decide_eq_false hx
        cases l with
        | nil => exact absurd rfl hl
        | cons x l => simp at this ⊢; exact this
    refine ⟨e, ?_⟩
    rw [atoiAll_short l (by omega)]
    have hd := dec_numF l 0 k h1
    cases l with
    | nil => exact absurd rfl hl
    | cons b l =>
      have hb : 48 ≤ b.toNat ∧ b.toNat ≤ 57 := digits_ok k b (by rw [← e]; exact List.mem_cons_self ..)
      have hb1 : (b == 45) = false := beq_eq_false_iff_ne.2 fun e => by rw [e] at hb; simp at hb
      have hb2 : (b == 43) = false := beq_eq_false_iff_ne.2 fun e => by rw [e] at hb; simp at hb
      unfold atoi decNat
      dsimp only
      rw [hb1, hb2]
      simp only [Bool.false_eq_true, if_false, List.isEmpty_cons]
      rw [hd]
      rfl
theorem tick_ok {l : Wv} {v : Int} (h : atoiAll l = .ok v) : (0 ≤ v ∧ v ≤ 1099511627776 ∧ itoa v = l → tickW l = some v.toNat) ∧ (¬ (0 ≤ v ∧ v ≤ 1099511627776 ∧ itoa v = l) → tickW l = none) := by
  constructor
  · rintro ⟨h0, h1, h2⟩
    rw [tick_iff]
    refine ⟨?_, by omega⟩
    rw [← h2]
    unfold itoa
    rw [if_neg (by omega)]
    exact numT_digits (by omega)
  · intro hn
    cases hq : tickW l with
    | none => rfl
    | some k =>
      exfalso
      obtain ⟨e1, e2⟩ := tick_digits hq
      have hk := ((tick_iff l k).1 hq).2
      rw [e2] at h
      injection h with h
      refine hn ⟨by omega, by omega, ?_⟩
      rw [← h]
      unfold itoa
      rw [if_neg (by omega)]
      exact e1.symm
theorem tick_no {l : Wv} (h : ∀ v, atoiAll l ≠ .ok v) : tickW l = none := by
  cases hq : tickW l with
  | none => rfl
  | some k => exact absurd (tick_digits hq).2 (h k)
theorem time_ticks {n p q : Wv} (hc : cutW n = some (p, q)) : timeW n = (tickW p).bind fun a => (tickW q).bind fun b => if a ≤ b then some (a, b) else none := by
  unfold timeW
  rw [hc]
  simp only [Option.bind_some]
  unfold tickW
  cases numT p with
  | none => rfl
  | some a =>
    cases numT q with
    | none =>
      simp only [Option.bind_some, Option.bind_none]
      split <;> rfl
    | some b =>
      simp only [Option.bind_some]
      by_cases h1 : a ≤ b ∧ b ≤ 1099511627776
      · rw [if_pos h1, if_pos (by omega), if_pos h1.2]
        simp only [Option.bind_some]
        rw [if_pos h1.1]
      · rw [if_neg h1]
        by_cases h2 : a ≤ 1099511627776
        · rw [if_pos h2]
          by_cases h3 : b ≤ 1099511627776
          · rw [if_pos h3]
            simp only [Option.bind_some]
            rw [if_neg (by omega)]
          · rw [if_neg h3]; rfl
        · rw [if_neg h2]; rfl
theorem time_nocut {n : Wv} (hc : cutW n = none) : timeW n = none := by
  unfold timeW
  rw [hc]; rfl
theorem tick_nil : tickW [] = none := rfl
theorem cut_take : ∀ (n : Wv), (cutW n = none ∧ (45 : UInt8) ∉ n) ∨ ∃ j : Nat, j < n.length ∧ n[j]? = some 45 ∧ (45 : UInt8) ∉ n.take j ∧ cutW n = some (n.take j, n.drop (j + 1))
  | [] => .inl ⟨rfl, by simp⟩
  | b :: l => by
    rw [cutW]
    by_cases hb : b = 45
    · subst hb
      rw [if_pos rfl]
      exact .inr ⟨0, by simp, rfl, by simp, rfl⟩
    · rw [if_neg hb]
      rcases cut_take l with ⟨h1, h2⟩ | ⟨j, h1, h2, h3, h4⟩
      · rw [h1]
        refine .inl ⟨rfl, fun h => ?_⟩
        rcases List.mem_cons.1 h with h | h
        · exact hb h.symm
        · exact h2 h
      · rw [h4]
        refine .inr ⟨j + 1, by simp; omega, h2, fun h => ?_, rfl⟩
        rw [List.take_succ_cons, List.mem_cons] at h
        rcases h with h | h
        · exact hb h.symm
        · exact h3 h
/-! Texts joined. -/
theorem join_sumB (s : List UInt8) : ∀ (ts : List (List UInt8)), Lib.join ts s = sumB s ts
  | [] => rfl
  | [t] => by simp [Lib.join, sumB]
  | t :: u :: ts => by
    have ih := join_sumB s (u :: ts)
    show _ = t ++ (s ++ sumB s (u :: ts))
    rw [← ih]
    simp [Lib.join]
/-! Texts parted at each blank. -/
theorem index_byte (c : UInt8) : ∀ (l : List UInt8), Lib.index l [c] = Lib.indexByte l c
  | [] => rfl
  | b :: l => by
    have ih := index_byte c l
    unfold Lib.index Lib.indexByte
    rw [ih]
    by_cases hb : b = c
    · subst hb; simp
    · have h1 : (b == c) = false := beq_eq_false_iff_ne.2 hb
      have h2 : ¬ c = b := fun e => hb e.symm
      simp [h1, h2]
theorem splitK_words : ∀ (k : Nat) (l : List UInt8), l.count 32 = k → splitK [32] 0 k l = wordsW l
  | 0, l, h => by
    rw [splitK, wwords_one l fun hm => by have := List.count_pos_iff.2 hm; omega]
  | k + 1, l, h => by
    rw [splitK, index_byte]
    have hm : (32 : UInt8) ∈ l := List.count_pos_iff.1 (by omega)
    rcases Int.lt_or_le (Lib.indexByte l 32) 0 with hi | hi
    · have hge := Lib.indexByte_ge l 32
      have h1 : Lib.indexByte l 32 = -1 := by omega
      obtain ⟨j, hj, e⟩ := List.mem_iff_getElem.1 hm
      exact absurd (List.getElem?_eq_getElem hj ▸ congrArg some e) (Lib.indexByte_none h1 j)
    · obtain ⟨i, hi⟩ := Int.eq_ofNat_of_zero_le hi
      obtain ⟨h1, h2⟩ := Lib.indexByte_some hi
      have hne : ¬ (Lib.indexByte l 32 == -1) = true := fun e => by have := beq_iff_eq.1 e; omega
      rw [if_neg hne, hi]
      have hil : i < l.length := (List.getElem?_eq_some_iff.1 h1).1
      have hd : l = l.take i ++ 32 :: l.drop (i + 1) := by
        have h3 := (List.getElem?_eq_some_iff.1 h1).2
        rw [← h3, ← List.drop_eq_getElem_cons hil, List.take_append_drop]
      have hno : (32 : UInt8) ∉ l.take i := fun hm => by
        obtain ⟨j, hj, e⟩ := List.mem_iff_getElem.1 hm
        rw [List.length_take] at hj
        rw [List.getElem_take] at e
        exact h2 j (by omega) (by rw [List.getElem?_eq_getElem (by omega), e])
      have hc : (l.drop (i + 1)).count 32 = k := by
        rw [hd, List.count_append, List.count_cons_self, List.count_eq_zero.2 hno] at h
        omega
      have ih := splitK_words k (l.drop (i + 1)) hc
      have e1 : ((i : Int)).toNat + 0 = i := by simp
      have e2 : ((i : Int)).toNat + [(32 : UInt8)].length = i + 1 := by simp
      rw [e1, e2, ih]
      conv => rhs; rw [hd]
      rw [words_more _ _ hno]
end
section
open Go.RowKit
def Tabs (w : World) : Prop := Pow w ∧ (∃ tp p, w.cell? ⟨6, 0, none⟩ = some (.iface tp p)) ∧ (∃ tp p, w.cell? ⟨7, 0, none⟩ = some (.iface tp p))
theorem Tabs.below {w w' : World} (h : Tabs w) (b : Below w.heap.size w w') : Tabs w' := by
  obtain ⟨h1, ⟨t2, p2, h2⟩, ⟨t3, p3, h3⟩⟩ := h
  exact ⟨h1.below b, ⟨t2, p2, (b.cell (show (⟨6, 0, none⟩ : Addr).block < w.heap.size from Lib.lt_of_cell h2)).trans h2⟩, ⟨t3, p3, (b.cell (show (⟨7, 0, none⟩ : Addr).block < w.heap.size from Lib.lt_of_cell h3)).trans h3⟩⟩
def TabsG (w : World) (g : Nat) : Prop := ∃ w0, Tabs w0 ∧ Below w0.heap.size w0 w ∧ w0.heap.size ≤ g
theorem TabsG.tabs {w : World} {g : Nat} (h : TabsG w g) : Tabs w := by
  obtain ⟨w0, h1, h2, _⟩ := h
  exact h1.below h2
theorem TabsG.below {w w' : World} {g : Nat} (h : TabsG w g) (b : Below w.heap.size w w') : TabsG w' g := by
  obtain ⟨w0, h1, h2, h3⟩ := h
  exact ⟨w0, h1, h2.trans (b.mono h2.size), h3⟩
theorem TabsG.grownX {w w' : World} {g : Nat} {row : Option Nat} (h : TabsG w g) (hg : w.grownBy w' row) (hr : ∀ x, row = some x → g ≤ x) : TabsG w' g := by
  obtain ⟨w0, h1, h2, h3⟩ := h
  have hs := h2.size
  exact ⟨w0, h1, h2.trans ⟨hg.os, hg.tape, hg.output, hg.size, fun k hk => hg.block k (by omega) (fun e => by have := hr k e.symm; omega)⟩, h3⟩
theorem TabsG.set {w : World} {g h i : Nat} {u : Value} (t : TabsG w g) (hh : g ≤ h) : TabsG (w.setCell ⟨h, i, none⟩ u) g := by
  obtain ⟨w0, h1, h2, h3⟩ := t
  exact ⟨w0, h1, h2.trans ⟨rfl, rfl, rfl, by simp [World.setCell], fun k hk => Below.heap_setCell w ⟨h, i, none⟩ u k (by show k ≠ h; omega)⟩, h3⟩
theorem atoi_any (l : List UInt8) (hl : l.length ≤ 1000) (w : World) (hT : Tabs w) :
    Calls Tryz.prog 93 #[strV l] w fun e w' => ∃ (n : Int) (E : Value), e = .returned (.tuple #[.int .i64 n, E]) ∧ I64 n ∧ ((Lib.atoiAll l = .ok n ∧ E = .nilIface) ∨ ((∀ v, Lib.atoiAll l ≠ .ok v) ∧ ∃ t a, E = .iface t (.pointer (some a)))) ∧ Below w.heap.size w w' := by
  obtain ⟨_, ⟨t2, p2, h2⟩, ⟨t3, p3, h3⟩⟩ := hT
  have hs : (⟨l.toArray⟩ : ByteArray).size = l.length := rfl
  have ed : (⟨l.toArray⟩ : ByteArray).data.toList = l := rfl
  rcases hq : Lib.atoiAll l with v | _ | _
  · obtain ⟨b0, b1⟩ := Lib.atoiAll_bounds hq
    refine (Any.strconv_Atoi_ok Tryz.laysAtoi ⟨l.toArray⟩ (by rw [hs]; omega) v (by rw [ed]; exact hq) w).mono ?_
    rintro e w' ⟨rfl, hw⟩
    refine ⟨v, .nilIface, rfl, ⟨b0, b1⟩, .inl ⟨rfl, rfl⟩, ?_⟩
    rcases hw with rfl | ⟨t, rfl⟩
    · exact Below.refl _ _
    · exact Lib.bytesWorld_below _ _ _
  · refine (Any.strconv_Atoi_syntax Tryz.laysAtoi ⟨l.toArray⟩ (by rw [hs]; omega) (by rw [ed]; exact hq) (.iface t2 p2) w h2 (.inr ⟨t2, p2, rfl⟩)).mono ?_
    rintro e w' ⟨N, rfl, _, _, b⟩
    exact ⟨0, _, rfl, by unfold I64; omega, .inr ⟨(fun v h => by cases h), _, _, rfl⟩, b⟩
  · obtain ⟨b0, b1⟩ := Lib.atoiSat_bounds l
    refine (Any.strconv_Atoi_range Tryz.laysAtoi ⟨l.toArray⟩ (by rw [hs]; omega) (by rw [ed]; exact hq) (.iface t3 p3) w h3 (.inr ⟨t3, p3, rfl⟩)).mono ?_
    rintro e w' ⟨N, rfl, _, _, b⟩
    exact ⟨Lib.atoiSat l, _, rfl, ⟨b0, b1⟩, .inr ⟨(fun v h => by cases h), _, _, rfl⟩, b⟩
set_option maxHeartbeats 4000000 in
theorem ptick_any (l : List UInt8) (hl : l.length ≤ 1000) (w : World) (hT : Tabs w) :
    Calls Tryz.prog 81 #[strV l] w fun e w' => ∃ n : Int, I64 n ∧ e = .returned (.tuple #[.int .i64 n, .bool (tickW l).isSome]) ∧ (∀ k, tickW l = some k → n = k) ∧ Below w.heap.size w w' := by
  have ha := atoi_any l hl w hT
  have hi := fun n (hn : I64 n) w' (b : Below w.heap.size w w') => itoa_any n hn w' (hT.below b).1
  have HI := Lib.hid hi
  have HTK := Lib.hid (fun v => @tick_ok l v)
  have HTN := Lib.hid (@tick_no l)
  have hs := fun m => zeq_txt (⟨(Lib.itoa m).toArray⟩ : ByteArray) ⟨l.toArray⟩ (Lib.itoa m) l rfl rfl
  have HS := Lib.hid hs
  clear hT hi hs
  unfold strV at *
  generalize (⟨l.toArray⟩ : ByteArray) = s at *
  go_enter Tryz.func81, Tryz.ntmps81
  go_wp2_with fail
  refine ha.mono ?_
  rintro e w1 ⟨n, E, rfl, hn, hE, b1⟩
  have B1 := Lib.hid b1
  have hin := HI.out n hn w1 b1
  have hnl := hn.1
  have hnh := hn.2
  have HN := Lib.hid hn
  clear ha b1 hn
  rcases hE with ⟨hq, rfl⟩ | ⟨hq, t, a, rfl⟩
  · obtain ⟨k1, k2⟩ := HTK.out n hq
    have K1 := Lib.hid k1
    have K2 := Lib.hid k2
    clear k1 k2 hq
    by_cases a1 : 0 ≤ n
    · have d1 : decide (0 ≤ n) = true := decide_eq_true a1
      by_cases a2 : n ≤ 1099511627776
      · have d2 : decide (n ≤ 1099511627776) = true := decide_eq_true a2
        have hst := HS.out n
        generalize hZ : (⟨(Lib.itoa n).toArray⟩ : ByteArray) = z at *
        clear hZ
        by_cases a3 : Lib.itoa n = l
        · rw [decide_eq_true a3] at hst
          have hst2 : z.toList = s.toList := beq_iff_eq.1 hst
          have hk := Lib.hid (K1.out ⟨a1, a2, a3⟩)
          clear a3 K1 K2 HI HTK HTN HS
          go_wp2_with fail
          refine hin.mono ?_
          rintro e w2 ⟨rfl, b2⟩
          have B2 := Lib.hid (B1.out.trans (b2.mono B1.out.size))
          clear hin b2
          go_wp2_with fail
          go_ret2
          rw [hk.out]
          exact ⟨n, HN.out, rfl, (fun k e => by injection e with e; omega), B2.out⟩
        · rw [decide_eq_false a3] at hst
          have hst2 : ¬ z.toList = s.toList := beq_eq_false_iff_ne.1 hst
          have hk := Lib.hid (K2.out fun h => a3 h.2.2)
          clear a3 K1 K2 HI HTK HTN HS
          go_wp2_with fail
          refine hin.mono ?_
          rintro e w2 ⟨rfl, b2⟩
          have B2 := Lib.hid (B1.out.trans (b2.mono B1.out.size))
          clear hin b2
          go_wp2_with fail
          go_ret2
          rw [hk.out]
          exact ⟨n, HN.out, rfl, (fun k e => by cases e), B2.out⟩
      · have d2 : decide (n ≤ 1099511627776) = false := decide_eq_false a2
        have hk := Lib.hid (K2.out fun h => a2 h.2.1)
        clear K1 K2 HI HTK HTN HS hin
        go_wp2_with fail
        go_ret2
        rw [hk.out]
        exact ⟨n, HN.out, rfl, (fun k e => by cases e), B1.out⟩
    · have d1 : decide (0 ≤ n) = false := decide_eq_false a1
      have hk := Lib.hid (K2.out fun h => a1 h.1)
      clear K1 K2 HI HTK HTN HS hin
      go_wp2_with fail
      go_ret2
      rw [hk.out]
      exact ⟨n, HN.out, rfl, (fun k e => by cases e), B1.out⟩
  · have hk := Lib.hid (HTN.out hq)
    clear HI HTK HTN HS hin hq
    go_wp2_with fail
    go_ret2
    rw [hk.out]
    exact ⟨n, HN.out, rfl, (fun k e => by cases e), B1.out⟩
end
section
open Go.ChangeShapes Go.WideShapes Go.ChangeAt Go.RowKit
theorem pow_data : (Rows.laid_internal_strconv_uint64pow10 : DataW Unit) = Lib.tabData .u64 Lib.pow10Tab := by kernel_rfl
theorem pow_type : (Tryz.prog.globals[1]?).map (·.type) = some 109 := by kernel_rfl
theorem cells_u64 : Tryz.prog.cellsOf 75 = 1 := by kernel_rfl
theorem cells_tab20 : Tryz.prog.cellsOf 109 = 20 := by kernel_rfl
theorem cells_errs : Tryz.prog.cellsOf 138 = 1 := by kernel_rfl
theorem cells_strw : Tryz.prog.cellsOf 9 = 1 := by kernel_rfl
theorem star_errs : "*" ++ "errors.errorString" = "*errors.errorString" := by decide
theorem row_errs (u : TypeId) (h : Tryz.prog.typeName? 3 u = some "*errors.errorString") : u = 136 :=
  typeName_ptr_named (nm := "errors.errorString") (by rw [star_errs]; kernel_rfl) (by kernel_rfl) (by decide) u (by rw [star_errs]; exact h)
theorem syn_name : Tryz.prog.globalNamed "strconv.ErrSyntax" = some 6 := by kernel_rfl
theorem ran_name : Tryz.prog.globalNamed "strconv.ErrRange" = some 7 := by kernel_rfl
theorem syn_type : (Tryz.prog.globals[6]?).map (·.type) = some 70 := by kernel_rfl
theorem ran_type : (Tryz.prog.globals[7]?).map (·.type) = some 70 := by kernel_rfl
theorem tabs_of_laid {W : World} {a b d e : String} (hs : Tryz.prog.globalNamed "internal/strconv.uint64pow10" = some 1)
    (h : laidMetH Tryz.prog [(a, Rows.laid_math_bits_deBruijn32tab), (b, Rows.laid_math_bits_deBruijn64tab), ("internal/strconv.uint64pow10", Rows.laid_internal_strconv_uint64pow10), (d, Rows.laid_unicode_utf8_acceptRanges), ("strconv.ErrRange", Rows.laid_strconv_ErrRange), ("strconv.ErrSyntax", Rows.laid_strconv_ErrSyntax), (e, Rows.laid_unicode_utf8_first)] W) : Tabs W := by
  rw [MakeChecks.laidMetH_plain _ _ _ (by kernel_rfl)] at h
  have h2 := laidMet.tail (laidMet.tail h)
  have h4 := laidMet.tail (laidMet.tail h2)
  have h5 := laidMet.tail h4
  obtain ⟨a1, _, v1, _⟩ := laid_sentinel h4 ran_name ran_type Tryz.underlying70 row_errs Tryz.underlying136 Tryz.underlying138 rfl rfl Tryz.underlying9 cells_errs cells_strw
  obtain ⟨a2, _, v2, _⟩ := laid_sentinel h5 syn_name syn_type Tryz.underlying70 row_errs Tryz.underlying136 Tryz.underlying138 rfl rfl Tryz.underlying9 cells_errs cells_strw
  rw [pow_data] at h2
  exact ⟨Lib.tabIs_of_head hs pow_type Tryz.underlying109 Tryz.underlying75 cells_u64 cells_tab20 h2,
    ⟨_, _, by have h0 := World.var?_cell syn_name v2 0; simpa using h0⟩, ⟨_, _, by have h0 := World.var?_cell ran_name v1 0; simpa using h0⟩⟩
end
end Go.Proofs.YtjecjlhofnnnpaaGreatDoor
