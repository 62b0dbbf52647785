/-
  DkS: Sectors: arrays of 256 bytes, by value and in rows, over the loaded program. No condition.
  Kp: Own words for memory, over any program: nothing but memory has turned, and no block of which a property holds; whole numbers of 64 bits; slices of cells. No condition; nothing of the dump is used here.
  DkM: A map of sectors by their numbers: looked up, put, cleared, gone through; over the loaded program. No condition but what each theorem names.
-/
import Derived.Test.YtgoifhpinoodgaaDoorWo04
import Derived.Test.YtgoifhpinoodgaaDoorWo02
import Derived.Test.YtgoifhpinoodgaaDoorWo00
import Derived.Laws.MakeOwn
import Derived.Maps.OwnSet
import Derived.Maps.RangeWalk
import Derived.Lib.SlKeysI

section
namespace Go.Proofs.YtgoifhpinoodgaaDoor
open Go.RowKit
set_option linter.unusedVariables false

/-- A sector's bytes as a value. -/
def secV (l : List UInt8) : Value := .agg (l.map bv).toArray
def z256 : List UInt8 := List.replicate 256 0
theorem z256_len : z256.length = 256 := List.length_replicate
theorem cells_sec : (Tryd.prog.info? 75).map (·.size) = some 256 := by kernel_rfl
theorem zero_sec (w : World) : (zeroValue 75).run Tryd.prog w = .ok (secV z256) w := by kernel_rfl
theorem info_sec : (Tryd.prog.info? 75).map (fun i => (i.zero, i.size, i.bytes)) = some (some (secV z256), 256, 256) := by kernel_rfl
theorem bv_inj {a b : UInt8} (e : bv a = bv b) : a = b := by
  simp only [bv, Value.int.injEq, true_and] at e
  exact UInt8.toNat_inj.1 (by omega)
theorem map_bv_inj : ∀ {l m : List UInt8}, l.map bv = m.map bv → l = m
  | [], [], _ => rfl
  | [], _ :: _, h => by cases h
  | _ :: _, [], h => by cases h
  | a :: l, b :: m, h => by
    simp only [List.map_cons, List.cons.injEq] at h
    rw [bv_inj h.1, map_bv_inj h.2]
theorem secV_inj {l m : List UInt8} (h : secV l = secV m) : l = m := by
  unfold secV at h
  simp only [Value.agg.injEq] at h
  exact map_bv_inj (by simpa using congrArg Array.toList h)

/-- Sectors one behind the other. -/
def secs (l : List (List UInt8)) : List Value := l.flatten.map bv
theorem secs_len : ∀ (l : List (List UInt8)), (∀ s ∈ l, s.length = 256) → (secs l).length = l.length * 256
  | [], _ => rfl
  | s :: r, h => by
    have h1 := secs_len r fun t ht => h t (by simp [ht])
    have h2 := h s (by simp)
    simp [secs] at h1 ⊢
    rw [h1, h2]
    omega
theorem secs_append (a b : List (List UInt8)) : secs (a ++ b) = secs a ++ secs b := by simp [secs]
theorem secs_split (l : List (List UInt8)) (i : Nat) (hi : i < l.length) : secs l = secs (l.take i) ++ (l[i].map bv ++ secs (l.drop (i + 1))) := by
  have e : l = l.take i ++ (l[i] :: l.drop (i + 1)) := by rw [List.getElem_cons_drop]; simp
  have e2 := congrArg secs e
  rw [secs_append] at e2
  rw [e2]
  congr 1
  simp only [secs, List.flatten_cons, List.map_append]
theorem take_secs_len (l : List (List UInt8)) (i : Nat) (hi : i ≤ l.length) (h : ∀ s ∈ l, s.length = 256) : (secs (l.take i)).length = i * 256 := by
  rw [secs_len _ fun s hs => h s (List.mem_of_mem_take hs), List.length_take, Nat.min_eq_left hi]

section
variable {w : World} {g : Nat} {t : TypeId} {l : List (List UInt8)}
/-- A sector in a row of sectors. -/
theorem KB.sec (h : KB w g t (secs l).toArray) (hl : ∀ s ∈ l, s.length = 256) (i : Nat) (hi : i < l.length) : w.rangeAt g (i * 256) (l[i].map bv) := by
  rw [secs_split l i hi] at h
  have := h.part
  rwa [take_secs_len l i (by omega) hl] at this
theorem secs_set (hl : ∀ s ∈ l, s.length = 256) (i : Nat) (hi : i < l.length) (s : List UInt8) (hs : s.length = 256) : splice (secs l) (i * 256) (s.map bv) = secs (l.set i s) := by
  have e1 := secs_split l i hi
  have e2 := secs_split (l.set i s) i (by simpa using hi)
  rw [e1, e2, ← take_secs_len l i (by omega) hl, splice_mid _ _ _ _ (by simp [hs, hl l[i] (List.getElem_mem hi)])]
  simp [List.take_set_of_le, List.drop_set_of_lt]
end

theorem secs_rep (k : Nat) : ∀ n : Nat, secs (List.replicate n (List.replicate k 0)) = List.replicate (n * k) (bv 0)
  | 0 => by simp [secs]
  | n + 1 => by
    rw [List.replicate_succ, show (List.replicate k (0 : UInt8) :: List.replicate n (List.replicate k 0)) = [List.replicate k 0] ++ List.replicate n (List.replicate k 0) from rfl, secs_append, secs_rep k n]
    simp only [secs, List.flatten_cons, List.flatten_nil, List.append_nil, List.map_replicate]
    rw [List.replicate_append_replicate, Nat.succ_mul, Nat.add_comm]
theorem z256_cells : (secV z256).cells = Array.replicate 256 (bv 0) := by
  show (z256.map bv).toArray = _
  unfold z256
  rw [List.map_replicate, List.toArray_replicate]
theorem madeCells_sec (n : Nat) : madeCells (secV z256).cells (n * 256) = (secs (List.replicate n z256)).toArray := by
  rw [madeCells_of _ _ 256 n (by omega) z256_cells]
  unfold z256
  rw [secs_rep, List.toArray_replicate]
end Go.Proofs.YtgoifhpinoodgaaDoor
end

section
namespace Go.Proofs.YtgoifhpinoodgaaDoor
open Go.RowKit
set_option linter.unusedVariables false

/-- A whole number of 64 bits. -/
def I64 (n : Int) : Prop := -9223372036854775808 ≤ n ∧ n ≤ 9223372036854775807

/-- Nothing but memory has turned, and no block of which P holds. -/
structure KeepP (P : Nat → Prop) (w w' : World) : Prop where
  os : w'.os = w.os
  tape : w'.tape = w.tape
  output : w'.output = w.output
  size : w.heap.size ≤ w'.heap.size
  block : ∀ b, P b → w'.heap[b]? = w.heap[b]?

section
variable {P Q : Nat → Prop} {a b c : World}
theorem KeepP.refl (P : Nat → Prop) (w : World) : KeepP P w w := ⟨rfl, rfl, rfl, Nat.le_refl _, fun _ _ => rfl⟩
theorem KeepP.trans (h : KeepP P a b) (k : KeepP P b c) : KeepP P a c := ⟨k.os.trans h.os, k.tape.trans h.tape, k.output.trans h.output, Nat.le_trans h.size k.size, fun i hi => (k.block i hi).trans (h.block i hi)⟩
theorem KeepP.mono (h : KeepP P a b) (hq : ∀ x, Q x → P x) : KeepP Q a b := ⟨h.os, h.tape, h.output, h.size, fun i hi => h.block i (hq i hi)⟩
theorem KeepP.of_below (h : Below a.heap.size a b) (hp : ∀ x, P x → x < a.heap.size) : KeepP P a b := ⟨h.os, h.tape, h.output, h.size, fun i hi => h.block i (hp i hi)⟩
theorem KeepP.alloc (w : World) (o : Obj) (hp : ∀ x, P x → x < w.heap.size) : KeepP P w (w.alloc o) := KeepP.of_below ((Below.refl _ _).alloc (Nat.le_refl _) o) hp
theorem KeepP.to_below {B : Nat} (h : KeepP P a b) (hp : ∀ x, x < B → P x) : Below B a b := ⟨h.os, h.tape, h.output, h.size, fun i hi => h.block i (hp i hi)⟩
theorem KB.keepP {g : Nat} {t : TypeId} {cs : Array Value} (h : KB a g t cs) (k : KeepP P a b) (hp : P g) : KB b g t cs := h.keep (k.block g hp)
end

section
variable {P Q : Nat → Prop} {a b c : World}
theorem KeepP.drewN (h : KeepP P a b) (n : Nat) : KeepP P a (b.drewN n) := ⟨h.os, h.tape, h.output, h.size, h.block⟩
theorem KeepP.set (h : KeepP P a b) (p : Addr) (hp : ¬ P p.block) (u : Value) : KeepP P a (b.setCell p u) :=
  ⟨h.os, h.tape, h.output, by simp [World.setCell]; exact h.size, fun i hi => (Below.heap_setCell b p u i fun e => hp (e ▸ hi)).trans (h.block i hi)⟩
theorem KeepP.new (h : KeepP P a b) (o : Obj) (hp : ∀ x, P x → x < a.heap.size) : KeepP P a (b.alloc o) :=
  ⟨h.os, h.tape, h.output, by have := h.size; simp; omega, fun i hi => (Below.heap_alloc b o i (by have := hp i hi; have := h.size; omega)).trans (h.block i hi)⟩
theorem KeepP.grown (h : KeepP P a b) {row : Option Nat} (hg : b.grownBy c row) (hr : ∀ g, row = some g → ¬ P g) (hp : ∀ x, P x → x < a.heap.size) : KeepP P a c :=
  ⟨hg.os.trans h.os, hg.tape.trans h.tape, hg.output.trans h.output, Nat.le_trans h.size hg.size, fun i hi => (hg.block i (by have := hp i hi; have := h.size; omega) (fun e => hr i e.symm hi)).trans (h.block i hi)⟩
theorem KeepP.below (h : KeepP P a b) {B : Nat} (hg : Below B b c) (hp : ∀ x, P x → x < B) : KeepP P a c :=
  ⟨hg.os.trans h.os, hg.tape.trans h.tape, hg.output.trans h.output, Nat.le_trans h.size hg.size, fun i hi => (hg.block i (hp i hi)).trans (h.block i hi)⟩
end

/-- A row of the call's own stays while its block does. -/
theorem own_keep {w w' : World} {B e size n : Nat} {v : Value} {xs : List Value} (h : w.ownsRow B e size v n xs) (hk : ∀ b, v.ownBlock = some b → w'.heap[b]? = w.heap[b]?) : w'.ownsRow B e size v n xs := by
  obtain ⟨h1, h2⟩ := h
  refine ⟨h1, ?_⟩
  rcases h2 with h2 | ⟨g, c, cur, rfl, hb, hg, r⟩
  · exact .inl h2
  · exact .inr ⟨g, c, cur, rfl, hb, (hk g rfl).trans hg, r⟩

/-- The slice value v reads, in w, as the cells cs, one cell each; where it is not empty it lies in a block of which S holds. -/
def CS (w : World) (S : Nat → Prop) (v : Value) (cs : List Value) : Prop :=
  ∃ A c, v = .slice A cs.length c ∧ cs.length ≤ c ∧ c ≤ maxLen ∧
    (0 < cs.length → ∃ b o, A = some ⟨b, o, none⟩ ∧ S b ∧ b < w.heap.size ∧ ∀ j u, cs[j]? = some u → w.cell? ⟨b, o + j, none⟩ = some u)

section
variable {w w' : World} {S S' : Nat → Prop} {v : Value} {cs : List Value}
theorem CS.nil (w : World) (S : Nat → Prop) : CS w S (.slice none 0 0) [] := ⟨none, 0, rfl, by simp, by simp [maxLen], fun h => absurd h (by simp)⟩
theorem CS.keep (h : CS w S v cs) (hs : w.heap.size ≤ w'.heap.size) (hk : ∀ b, S b → b < w.heap.size → w'.heap[b]? = w.heap[b]?) : CS w' S v cs := by
  obtain ⟨A, c, e, hl, hc, hx⟩ := h
  refine ⟨A, c, e, hl, hc, fun h0 => ?_⟩
  obtain ⟨b, o, ea, sb, hb, hx⟩ := hx h0
  exact ⟨b, o, ea, sb, by omega, fun j u hu => (World.cell?_of_block (w := w) (hk b sb hb)).trans (hx j u hu)⟩
theorem CS.mono (h : CS w S v cs) (hs : ∀ b, S b → S' b) : CS w S' v cs := by
  obtain ⟨A, c, e, hl, hc, hx⟩ := h
  refine ⟨A, c, e, hl, hc, fun h0 => ?_⟩
  obtain ⟨b, o, ea, sb, r⟩ := hx h0
  exact ⟨b, o, ea, hs b sb, r⟩
theorem CS.lt (h : CS w S v cs) : CS w (fun b => S b ∧ b < w.heap.size) v cs := by
  obtain ⟨A, c, e, hl, hc, hx⟩ := h
  refine ⟨A, c, e, hl, hc, fun h0 => ?_⟩
  obtain ⟨b, o, ea, sb, hb, r⟩ := hx h0
  exact ⟨b, o, ea, ⟨sb, hb⟩, hb, r⟩
theorem CS.below' (h : CS w S v cs) (hg : Below w.heap.size w w') : CS w' S v cs := h.keep hg.size fun b _ hb => hg.block b hb
theorem CS.keepP {P : Nat → Prop} (h : CS w S v cs) (k : KeepP P w w') (hp : ∀ b, S b → b < w.heap.size → P b) : CS w' S v cs := h.keep k.size fun b sb hb => k.block b (hp b sb hb)
theorem CS.form (h : CS w S v cs) : ∃ A c, v = .slice A cs.length c ∧ cs.length ≤ c ∧ c ≤ maxLen := by
  obtain ⟨A, c, e, hl, hc, hx⟩ := h
  exact ⟨A, c, e, hl, hc⟩
theorem CS.at_ {A : Option Addr} {n c : Nat} (h : CS w S (.slice A n c) cs) (hp : 0 < cs.length) :
    ∃ b o, A = some ⟨b, o, none⟩ ∧ S b ∧ b < w.heap.size ∧ ∀ j u, cs[j]? = some u → w.cell? ⟨b, o + j, none⟩ = some u := by
  obtain ⟨A', c', e, hl, hc, hx⟩ := h
  injection e with e1 e2 e3
  subst e1
  exact hx hp
theorem CS.of_own {base e n : Nat} (h : w.ownsRow base e 1 v n cs) : CS w (fun b => base ≤ b) v cs := by
  obtain ⟨h1, h2⟩ := h
  have hn : n = cs.length := by simpa using h1.symm
  subst hn
  rcases h2 with ⟨rfl, h0⟩ | ⟨g, cap, cur, rfl, hb, hg, hnc, hcm, hcs, htk⟩
  · obtain rfl : cs = [] := List.eq_nil_of_length_eq_zero h0
    exact CS.nil w _
  · refine ⟨_, _, rfl, hnc, hcm, fun _ => ⟨g, 0, rfl, hb, (Array.getElem?_eq_some_iff.1 hg).1, fun j u hu => ?_⟩⟩
    rw [Nat.zero_add, cell_of_row w g j cur e (0, 0) hg]
    rw [← htk, List.getElem?_take] at hu
    split at hu
    · simpa using hu
    · cases hu
end
end Go.Proofs.YtgoifhpinoodgaaDoor
end

section
namespace Go.Proofs.YtgoifhpinoodgaaDoor
open Go.RowKit Go.Maps
set_option linter.unusedVariables false

theorem law_int : Keyed Tryd.prog 3 := int_keyed Tryd.underlying3
theorem key_nat (i : Nat) (h : i < 1000000) : keyOf Tryd.prog 3 (.int .i64 (i : Int)) = some (.int .i64 (i : Int)) :=
  keyOf_int_mk Tryd.underlying3 (by simp [Lit.wf, IntKind.min, IntKind.max, IntKind.signed, IntKind.bits]; omega)
theorem nat_ne {i j : Nat} (h : j ≠ i) : Lit.int .i64 (j : Int) ≠ Lit.int .i64 (i : Int) := by
  intro e
  simp only [Lit.int.injEq, true_and] at e
  omega

/-- An element of a map, told as it is. -/
def secE (v : Value) : Option (DataW Value × List MemPlace) := some (.held v, [])

/-- What a map tells of the sectors below N: at i it holds f i. -/
structure Told (f : Nat → Option (List UInt8)) (N : Nat) (D : DataW Value) : Prop where
  has : ∀ i : Nat, has D (.int .i64 i) = (f i).isSome
  at_ : ∀ (i : Nat) (l : List UInt8), f i = some l → ∀ z, D.atKey (.int .i64 i) z = .held (secV l)
  num : ∀ x : Int, Maps.has D (.int .i64 x) = true → ∃ i : Nat, i < N ∧ x = i

/-- f, but l at i. -/
def upd (f : Nat → Option (List UInt8)) (i : Nat) (l : List UInt8) : Nat → Option (List UInt8) := fun j => if j = i then some l else f j

/-- Block m is a map: of the sectors below N it holds f. -/
def PM (w : World) (m : Nat) (f : Nat → Option (List UInt8)) (N : Nat) : Prop :=
  ∃ D : DataW Value, w.ownsMap Tryd.prog 3 secE m N D ∧ Told f N D

theorem Told.none (N : Nat) : Told (fun _ => none) N (.map []) := ⟨fun _ => rfl, fun _ _ h => (by cases h), fun _ h => (by cases h)⟩

theorem few_nats : ∀ (n : Nat) (l : List Nat), l.Nodup → (∀ x ∈ l, x < n) → l.length ≤ n
  | 0, l, _, hm => by
    cases l with
    | nil => simp
    | cons a r => exact absurd (hm a (by simp)) (by omega)
  | n + 1, l, hd, hm => by
    by_cases h : n ∈ l
    · have h1 := few_nats n (l.erase n) (hd.erase n) fun x hx => by
        have h2 := hm x (List.mem_of_mem_erase hx)
        have h3 : x ≠ n := fun e => by subst e; exact (hd.not_mem_erase) hx
        omega
      have := List.length_erase_of_mem h
      omega
    · have := few_nats n l hd fun x hx => by
        have h2 := hm x hx
        have h3 : x ≠ n := fun e => h (e ▸ hx)
        omega
      omega

theorem nodup_keys {w : World} {m n : Nat} {D : DataW Value} (h : w.ownsMap Tryd.prog 3 secE m n D) : (intKeys D).Nodup ∧ ∀ x, x ∈ intKeys D ↔ has D (.int .i64 x) = true := by
  obtain ⟨es, hD, hpw, _⟩ := h.entries law_int
  obtain ⟨es', hD', hko⟩ := h.keysOf
  obtain rfl : es = es' := by rw [hD] at hD'; simpa using hD'
  subst hD
  have hk : ∀ p ∈ es, ∃ x, p.1 = .int .i64 x := fun p hp => by obtain ⟨v, hv⟩ := hko p hp; obtain ⟨x, _, hx, _⟩ := Maps.keyOf_i64 Tryd.underlying3 hv; exact ⟨x, hx⟩
  refine ⟨?_, fun x => ?_⟩
  · show (es.map fun p => Go.intOf p.1).Nodup
    refine List.pairwise_map.2 (hpw.imp_of_mem fun {p q} hp' hq' hne e => hne ?_)
    obtain ⟨a, ha⟩ := hk p hp'
    obtain ⟨b, hb⟩ := hk q hq'
    rw [ha, hb] at e ⊢
    exact congrArg _ e
  · rw [has_eq, List.any_eq_true]
    show x ∈ es.map (fun p => Go.intOf p.1) ↔ _
    rw [List.mem_map]
    constructor
    · rintro ⟨p, hp', rfl⟩
      obtain ⟨a, ha⟩ := hk p hp'
      exact ⟨p, hp', by rw [ha]; simp [Lit.sameKey, Go.intOf]⟩
    · rintro ⟨p, hp', hs⟩
      obtain ⟨a, ha⟩ := hk p hp'
      rw [ha] at hs
      exact ⟨p, hp', by rw [ha]; simpa [Lit.sameKey, Go.intOf] using hs⟩

/-- A map whose keys are numbers below N has N entries at most. -/
theorem tight {w : World} {m n N : Nat} {D : DataW Value} (h : w.ownsMap Tryd.prog 3 secE m n D) (hN : ∀ x : Int, has D (.int .i64 x) = true → ∃ i : Nat, i < N ∧ x = i) : w.ownsMap Tryd.prog 3 secE m N D := by
  obtain ⟨k1, k2⟩ := nodup_keys h
  obtain ⟨es, clock, hb, F, hs, hD⟩ := h
  refine ⟨es, clock, hb, F, ?_, hD⟩
  have hlen : (intKeys D).length = es.size := by
    subst hD
    simp [intKeys, length_sorted]
  have h1 : ((intKeys D).map Int.toNat).Nodup := by
    refine List.pairwise_map.2 (List.Pairwise.imp_of_mem (fun {a b} ha hb hne e => hne ?_) k1)
    obtain ⟨i, _, rfl⟩ := hN a ((k2 a).1 ha)
    obtain ⟨j, _, rfl⟩ := hN b ((k2 b).1 hb)
    omega
  have h2 := few_nats N _ h1 fun x hx => by
    obtain ⟨a, ha, rfl⟩ := List.mem_map.1 hx
    obtain ⟨i, hi, rfl⟩ := hN a ((k2 a).1 ha)
    simpa using hi
  rw [List.length_map, hlen] at h2
  exact h2

section
variable {w w' : World} {m N : Nat} {f : Nat → Option (List UInt8)}
theorem PM.made (w : World) (N : Nat) : PM (w.alloc (.map #[] 0)) w.heap.size (fun _ => none) N := ⟨.map [], (World.ownsMap_made w _ _ _).mono (Nat.zero_le _), Told.none N⟩
theorem PM.lt (h : PM w m f N) : m < w.heap.size := h.choose_spec.1.lt
theorem PM.keep (h : PM w m f N) (hk : w'.heap[m]? = w.heap[m]?) : PM w' m f N := by
  obtain ⟨D, ⟨es, clock, hb, F, hs, hD⟩, r⟩ := h
  exact ⟨D, ⟨es, clock, hk.trans hb, F, hs, hD⟩, r⟩
/-- 'v, there := m[i]'. -/
theorem PM.look_ok (h : PM w m f N) (i : Nat) (hi : i < 1000000) : (Instr.lookup 63 (.map (some m)) (.int .i64 (i : Int)) true).run Tryd.prog w = .ok (.tuple #[secV ((f i).getD z256), .bool (f i).isSome]) w := by
  obtain ⟨D, h1, h2⟩ := h
  obtain ⟨v, ps, hrun, hv⟩ := h1.look_ok (t := 63) law_int Tryd.underlying63 (zero_sec w) (zd := .held (secV z256)) (zp := []) rfl (key_nat i hi)
  rw [hrun, h2.has i]
  have hv2 : v = secV ((f i).getD z256) := by
    simp only [secE, Option.some.injEq, Prod.mk.injEq] at hv
    cases hf : f i with
    | none =>
      have h3 := h2.has i
      rw [hf] at h3
      rw [atKey_of_not_has h3] at hv
      simpa using hv.1
    | some l =>
      rw [h2.at_ i l hf] at hv
      simpa using hv.1
  rw [hv2]
/-- 'm[i]'. -/
theorem PM.look (h : PM w m f N) (i : Nat) (hi : i < 1000000) : (Instr.lookup 63 (.map (some m)) (.int .i64 (i : Int)) false).run Tryd.prog w = .ok (secV ((f i).getD z256)) w := by
  obtain ⟨D, h1, h2⟩ := h
  obtain ⟨v, ps, hrun, hv⟩ := h1.lookup (t := 63) law_int Tryd.underlying63 (zero_sec w) (zd := .held (secV z256)) (zp := []) rfl (key_nat i hi)
  rw [hrun]
  have hv2 : v = secV ((f i).getD z256) := by
    simp only [secE, Option.some.injEq, Prod.mk.injEq] at hv
    cases hf : f i with
    | none =>
      have h3 := h2.has i
      rw [hf] at h3
      rw [atKey_of_not_has h3] at hv
      simpa using hv.1
    | some l =>
      rw [h2.at_ i l hf] at hv
      simpa using hv.1
  rw [hv2]
/-- 'm[i] = v'. -/
theorem PM.put (h : PM w m f N) (hN : N < 1000000) (i : Nat) (hi : i < N) (l : List UInt8) :
    ∃ w', (Instr.mapUpdate 63 (.map (some m)) (.int .i64 (i : Int)) (secV l)).run Tryd.prog w = .ok () w' ∧ PM w' m (upd f i l) N ∧ w.grownBy w' (some m) := by
  obtain ⟨D, h1, h2⟩ := h
  have hk := key_nat i (by omega)
  obtain ⟨w', hrun, r1, r2⟩ := h1.update (t := 63) law_int Tryd.underlying63 (by unfold maxLen; omega) (val := secV l) (d := .held (secV l)) (ps := []) hk rfl
  have told : Told (upd f i l) N (D.put (.int .i64 i) (.held (secV l))) := by
    refine ⟨fun j => ?_, fun j m hm z => ?_, fun x hx => ?_⟩
    · by_cases hj : j = i
      · subst hj
        rw [has_put_same h1.isMap (law_int.key hk), upd, if_pos rfl]; rfl
      · rw [has_put_other (nat_ne hj), upd, if_neg hj]; exact h2.has j
    · unfold upd at hm
      by_cases hj : j = i
      · subst hj
        rw [if_pos rfl] at hm
        obtain rfl := Option.some.inj hm
        exact atKey_put_same h1.isMap (law_int.key hk) _ _
      · rw [if_neg hj] at hm
        rw [atKey_put_other (nat_ne hj)]
        exact h2.at_ j m hm z
    · by_cases hj : Lit.int .i64 x = Lit.int .i64 i
      · simp only [Lit.int.injEq, true_and] at hj
        exact ⟨i, hi, hj⟩
      · rw [has_put_other hj] at hx
        exact h2.num x hx
  exact ⟨w', hrun, ⟨_, tight r1 told.num, told⟩, r2⟩
/-- 'clear(m)'. -/
theorem PM.clear (h : PM w m f N) (ty : TypeId) : ∃ w', (Builtin.clear_ #[63] ty #[.map (some m)]).run Tryd.prog w = .ok (.tuple #[]) w' ∧ PM w' m (fun _ => none) N ∧ w.grownBy w' (some m) := by
  obtain ⟨D, ⟨es, clock, hb, F, hs, hD⟩, h2⟩ := h
  refine ⟨ChangeMaps.setBlock w m (.map #[] clock), ?_, ⟨.map [], ⟨#[], clock, ChangeMaps.heap_setBlock_same hb _, ⟨by simp, MapKept.stamped_empty clock, by simp⟩, Nat.zero_le _, rfl⟩, Told.none N⟩, ⟨rfl, rfl, rfl, by simp [ChangeMaps.setBlock], fun i _ hi => ChangeMaps.heap_setBlock_other hb _ (fun e => hi (by rw [e]))⟩⟩
  simp [Builtin.clear_, run_underlying Tryd.underlying63, MapKept.run_getObj_map hb, MapKept.run_setObj_map (.map #[] clock) hb, Result.andThen, ChangeMaps.setBlock]
end
end Go.Proofs.YtgoifhpinoodgaaDoor
end
