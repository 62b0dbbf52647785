/-
  Kp: Own words for memory, over any program: nothing but memory has turned, and no block of which a property holds; whole numbers of 64 bits; slices of cells. No condition; nothing of the dump is used here.
  DkM: A map of sectors by their numbers: looked up, put, cleared, gone through; over the loaded program. No condition but what each theorem names.
  DkR: A map of sectors gone through, and its keys in order; over the loaded program. No condition but what each theorem names.
  Args: Arguments opened: a []byte that came in reads as bytes. No condition.
  Txt: Texts (strings) as values: a string of given bytes; its bytes as a slice of the call's own; whether two are the same; a string that came in. General. No condition.
  StF: Maps by texts, whatever their elements are: looked up, put, deleted, gone through; over the loaded program. No condition but what each theorem names.
-/
import Derived.Test.YteddmnoeljakpaaGreatDoorSw00
import Derived.Test.YteddmnoeljakpaaGreatDoorSw01
import Derived.Maps.OwnSet
import Derived.Maps.RangeWalk
import Derived.Lib.SlKeysI
import Derived.Test.YteddmnoeljakpaaGreatDoorProg
import Derived.ProofKit
import Derived.OpenShut
import Derived.Lib.SmallJoins
import Derived.Deep.Slices
import Derived.Lib.ConvBytes
import Derived.StringKeys
set_option linter.unusedVariables false
set_option maxRecDepth 100000
namespace Go.Proofs.YteddmnoeljakpaaGreatDoor
section
open Go.RowKit
def I64 (n : Int) : Prop := -9223372036854775808 ≤ n ∧ n ≤ 9223372036854775807
structure KeepP (P : Nat → Prop) (w w' : World) : Prop where
  os : w'.os = w.os
  tape : w'.tape = w.tape
  output : w'.output = w.output
  size : w.heap.size ≤ w'.heap.size
  block : ∀ b, P b → w'.heap[b]? = w.heap[b]?
section
variable {P Q : Nat → Prop} {a b c : World}
theorem KeepP.refl (P : Nat → Prop) (w : World) : KeepP P w w := ⟨rfl, rfl, rfl, Nat.le_refl _, fun _ _ => rfl⟩
theorem KeepP.trans (h : KeepP P a b) (k : KeepP P b c) : KeepP P a c := ⟨k.os.trans h.os, k.tape.trans h.tape, k.output.trans h.output, Nat.le_trans h.size k.size, fun i hi => (k.block i hi).trans (h.block i hi)⟩
theorem KeepP.mono (h : KeepP P a b) (hq : ∀ x, Q x → P x) : KeepP Q a b := ⟨h.os, h.tape, h.output, h.size, fun i hi => h.block i (hq i hi)⟩
theorem KeepP.of_below (h : Below a.heap.size a b) (hp : ∀ x, P x → x < a.heap.size) : KeepP P a b := ⟨h.os, h.tape, h.output, h.size, fun i hi => h.block i (hp i hi)⟩
theorem KeepP.alloc (w : World) (o : Obj) (hp : ∀ x, P x → x < w.heap.size) : KeepP P w (w.alloc o) := KeepP.of_below ((Below.refl _ _).alloc (Nat.le_refl _) o) hp
theorem KeepP.to_below {B : Nat} (h : KeepP P a b) (hp : ∀ x, x < B → P x) : Below B a b := ⟨h.os, h.tape, h.output, h.size, fun i hi => h.block i (hp i hi)⟩
theorem KB.keepP {g : Nat} {t : TypeId} {cs : Array Value} (h : KB a g t cs) (k : KeepP P a b) (hp : P g) : KB b g t cs := h.keep (k.block g hp)
end
section
variable {P Q : Nat → Prop} {a b c : World}
theorem KeepP.drewN (h : KeepP P a b) (n : Nat) : KeepP P a (b.drewN n) := ⟨h.os, h.tape, h.output, h.size, h.block⟩
theorem KeepP.set (h : KeepP P a b) (p : Addr) (hp : ¬ P p.block) (u : Value) : KeepP P a (b.setCell p u) :=
  ⟨h.os, h.tape, h.output, by simp [World.setCell]; exact h.size, fun i hi => (Below.heap_setCell b p u i fun e => hp (e ▸ hi)).trans (h.block i hi)⟩
theorem KeepP.new (h : KeepP P a b) (o : Obj) (hp : ∀ x, P x → x < a.heap.size) : KeepP P a (b.alloc o) :=
  ⟨h.os, h.tape, h.output, by have := h.size; simp; omega, fun i hi => (Below.heap_alloc b o i (by have := hp i hi; have := h.size; omega)).trans (h.block i hi)⟩
theorem KeepP.grown (h : KeepP P a b) {row : Option Nat} (hg : b.grownBy c row) (hr : ∀ g, row = some g → ¬ P g) (hp : ∀ x, P x → x < a.heap.size) : KeepP P a c :=
  ⟨hg.os.trans h.os, hg.tape.trans h.tape, hg.output.trans h.output, Nat.le_trans h.size hg.size, fun i hi => (hg.block i (by have := hp i hi; have := h.size; omega) (fun e => hr i e.symm hi)).trans (h.block i hi)⟩
end
theorem own_keep {w w' : World} {B e size n : Nat} {v : Value} {xs : List Value} (h : w.ownsRow B e size v n xs) (hk : ∀ b, v.ownBlock = some b → w'.heap[b]? = w.heap[b]?) : w'.ownsRow B e size v n xs := by
  obtain ⟨h1, h2⟩ := h
  refine ⟨h1, ?_⟩
  rcases h2 with h2 | ⟨g, c, cur, rfl, hb, hg, r⟩
  · exact .inl h2
  · exact .inr ⟨g, c, cur, rfl, hb, (hk g rfl).trans hg, r⟩
def CS (w : World) (S : Nat → Prop) (v : Value) (cs : List Value) : Prop :=
  ∃ A c, v = .slice A cs.length c ∧ cs.length ≤ c ∧ c ≤ maxLen ∧
    (0 < cs.length → ∃ b o, A = some ⟨b, o, none⟩ ∧ S b ∧ b < w.heap.size ∧ ∀ j u, cs[j]? = some u → w.cell? ⟨b, o + j, none⟩ = some u)
section
variable {w w' : World} {S S' : Nat → Prop} {v : Value} {cs : List Value}
theorem CS.nil (w : World) (S : Nat → Prop) : CS w S (.slice none 0 0) [] := ⟨none, 0, rfl, by simp, by simp [maxLen], fun h => absurd h (by simp)⟩
theorem CS.keep (h : CS w S v cs) (hs : w.heap.size ≤ w'.heap.size) (hk : ∀ b, S b → b < w.heap.size → w'.heap[b]? = w.heap[b]?) : CS w' S v cs := by
  obtain ⟨A, c, e, hl, hc, hx⟩ := h
  refine ⟨A, c, e, hl, hc, fun h0 => ?_⟩
  obtain ⟨b, o, ea, sb, hb, hx⟩ := hx h0
  exact ⟨b, o, ea, sb, by omega, fun j u hu => (World.cell?_of_block (w := w) (hk b sb hb)).trans (hx j u hu)⟩
theorem CS.lt (h : CS w S v cs) : CS w (fun b => S b ∧ b < w.heap.size) v cs := by
  obtain ⟨A, c, e, hl, hc, hx⟩ := h
  refine ⟨A, c, e, hl, hc, fun h0 => ?_⟩
  obtain ⟨b, o, ea, sb, hb, r⟩ := hx h0
  exact ⟨b, o, ea, ⟨sb, hb⟩, hb, r⟩
theorem CS.below' (h : CS w S v cs) (hg : Below w.heap.size w w') : CS w' S v cs := h.keep hg.size fun b _ hb => hg.block b hb
theorem CS.keepP {P : Nat → Prop} (h : CS w S v cs) (k : KeepP P w w') (hp : ∀ b, S b → b < w.heap.size → P b) : CS w' S v cs := h.keep k.size fun b sb hb => k.block b (hp b sb hb)
theorem CS.form (h : CS w S v cs) : ∃ A c, v = .slice A cs.length c ∧ cs.length ≤ c ∧ c ≤ maxLen := by
  obtain ⟨A, c, e, hl, hc, hx⟩ := h
  exact ⟨A, c, e, hl, hc⟩
theorem CS.at_ {A : Option Addr} {n c : Nat} (h : CS w S (.slice A n c) cs) (hp : 0 < cs.length) :
    ∃ b o, A = some ⟨b, o, none⟩ ∧ S b ∧ b < w.heap.size ∧ ∀ j u, cs[j]? = some u → w.cell? ⟨b, o + j, none⟩ = some u := by
  obtain ⟨A', c', e, hl, hc, hx⟩ := h
  injection e with e1 e2 e3
  subst e1
  exact hx hp
theorem CS.of_own {base e n : Nat} (h : w.ownsRow base e 1 v n cs) : CS w (fun b => base ≤ b) v cs := by
  obtain ⟨h1, h2⟩ := h
  have hn : n = cs.length := by simpa using h1.symm
  subst hn
  rcases h2 with ⟨rfl, h0⟩ | ⟨g, cap, cur, rfl, hb, hg, hnc, hcm, hcs, htk⟩
  · obtain rfl : cs = [] := List.eq_nil_of_length_eq_zero h0
    exact CS.nil w _
  · refine ⟨_, _, rfl, hnc, hcm, fun _ => ⟨g, 0, rfl, hb, (Array.getElem?_eq_some_iff.1 hg).1, fun j u hu => ?_⟩⟩
    rw [Nat.zero_add, cell_of_row w g j cur e (0, 0) hg]
    rw [← htk, List.getElem?_take] at hu
    split at hu
    · simpa using hu
    · cases hu
end
end
section
open Go.RowKit Go.Maps
theorem law_int : Keyed Tryz.prog 3 := int_keyed Tryz.underlying3
theorem key_nat (i : Nat) (h : i < 1000000) : keyOf Tryz.prog 3 (.int .i64 (i : Int)) = some (.int .i64 (i : Int)) :=
  keyOf_int_mk Tryz.underlying3 (by simp [Lit.wf, IntKind.min, IntKind.max, IntKind.signed, IntKind.bits]; omega)
theorem nat_ne {i j : Nat} (h : j ≠ i) : Lit.int .i64 (j : Int) ≠ Lit.int .i64 (i : Int) := by
  intro e
  simp only [Lit.int.injEq, true_and] at e
  omega
def secE (v : Value) : Option (DataW Value × List MemPlace) := some (.held v, [])
structure Told (f : Nat → Option (List UInt8)) (N : Nat) (D : DataW Value) : Prop where
  has : ∀ i : Nat, has D (.int .i64 i) = (f i).isSome
  at_ : ∀ (i : Nat) (l : List UInt8), f i = some l → ∀ z, D.atKey (.int .i64 i) z = .held (secV l)
  num : ∀ x : Int, Maps.has D (.int .i64 x) = true → ∃ i : Nat, i < N ∧ x = i
def upd (f : Nat → Option (List UInt8)) (i : Nat) (l : List UInt8) : Nat → Option (List UInt8) := fun j => if j = i then some l else f j
def PM (w : World) (m : Nat) (f : Nat → Option (List UInt8)) (N : Nat) : Prop :=
  ∃ D : DataW Value, w.ownsMap Tryz.prog 3 secE m N D ∧ Told f N D
theorem Told.none (N : Nat) : Told (fun _ => none) N (.map []) := ⟨fun _ => rfl, fun _ _ h => (by cases h), fun _ h => (by cases h)⟩
theorem few_nats : ∀ (n : Nat) (l : List Nat), l.Nodup → (∀ x ∈ l, x < n) → l.length ≤ n
  | 0, l, _, hm => by
    cases l with
    | nil => simp
    | cons a r => exact absurd (hm a (by simp)) (by omega)
  | n + 1, l, hd, hm => by
    by_cases h : n ∈ l
    · have h1 := few_nats n (l.erase n) (hd.erase n) fun x hx => by
        have h2 := hm x (List.mem_of_mem_erase hx)
        have h3 : x ≠ n := fun e => by subst e; exact (hd.not_mem_erase) hx
        omega
      have := List.length_erase_of_mem h
      omega
    · have := few_nats n l hd fun x hx => by
        have h2 := hm x hx
        have h3 : x ≠ n := fun e => h (e ▸ hx)
        omega
      omega
theorem nodup_keys {w : World} {m n : Nat} {D : DataW Value} (h : w.ownsMap Tryz.prog 3 secE m n D) : (intKeys D).Nodup ∧ ∀ x, x ∈ intKeys D ↔ has D (.int .i64 x) = true := by
  obtain ⟨es, hD, hpw, _⟩ := h.entries law_int
  obtain ⟨es', hD', hko⟩ := h.keysOf
  obtain rfl : es = es' := by rw [hD] at hD'; simpa using hD'
  subst hD
  have hk : ∀ p ∈ es, ∃ x, p.1 = .int .i64 x := fun p hp => by obtain ⟨v, hv⟩ := hko p hp; obtain ⟨x, _, hx, _⟩ := Maps.keyOf_i64 Tryz.underlying3 hv; exact ⟨x, hx⟩
  refine ⟨?_, fun x => ?_⟩
  · show (es.map fun p => Go.intOf p.1).Nodup
    refine List.pairwise_map.2 (hpw.imp_of_mem fun {p q} hp' hq' hne e => hne ?_)
    obtain ⟨a, ha⟩ := hk p hp'
    obtain ⟨b, hb⟩ := hk q hq'
    rw [ha, hb] at e ⊢
    exact congrArg _ e
  · rw [has_eq, List.any_eq_true]
    show x ∈ es.map (fun p => Go.intOf p.1) ↔ _
    rw [List.mem_map]
    constructor
    · rintro ⟨p, hp', rfl⟩
      obtain ⟨a, ha⟩ := hk p hp'
      exact ⟨p, hp', by rw [ha]; simp [Lit.sameKey, Go.intOf]⟩
    · rintro ⟨p, hp', hs⟩
      obtain ⟨a, ha⟩ := hk p hp'
      rw [ha] at hs
      exact ⟨p, hp', by rw [ha]; simpa [Lit.sameKey, Go.intOf] using hs⟩
theorem tight {w : World} {m n N : Nat} {D : DataW Value} (h : w.ownsMap Tryz.prog 3 secE m n D) (hN : ∀ x : Int, has D (.int .i64 x) = true → ∃ i : Nat, i < N ∧ x = i) : w.ownsMap Tryz.prog 3 secE m N D := by
  obtain ⟨k1, k2⟩ := nodup_keys h
  obtain ⟨es, clock, hb, F, hs, hD⟩ := h
  refine ⟨es, clock, hb, F, ?_, hD⟩
  have hlen : (intKeys D).length = es.size := by
    subst hD
    simp [intKeys, length_sorted]
  have h1 : ((intKeys D).map Int.toNat).Nodup := by
    refine List.pairwise_map.2 (List.Pairwise.imp_of_mem (fun {a b} ha hb hne e => hne ?_) k1)
    obtain ⟨i, _, rfl⟩ := hN a ((k2 a).1 ha)
    obtain ⟨j, _, rfl⟩ := hN b ((k2 b).1 hb)
    omega
  have h2 := few_nats N _ h1 fun x hx => by
    obtain ⟨a, ha, rfl⟩ := List.mem_map.1 hx
    obtain ⟨i, hi, rfl⟩ := hN a ((k2 a).1 ha)
    simpa using hi
  rw [List.length_map, hlen] at h2
  exact h2
section
variable {w w' : World} {m N : Nat} {f : Nat → Option (List UInt8)}
theorem PM.made (w : World) (N : Nat) : PM (w.alloc (.map #[] 0)) w.heap.size (fun _ => none) N := ⟨.map [], (World.ownsMap_made w _ _ _).mono (Nat.zero_le _), Told.none N⟩
theorem PM.lt (h : PM w m f N) : m < w.heap.size := h.choose_spec.1.lt
theorem PM.keep (h : PM w m f N) (hk : w'.heap[m]? = w.heap[m]?) : PM w' m f N := by
  obtain ⟨D, ⟨es, clock, hb, F, hs, hD⟩, r⟩ := h
  exact ⟨D, ⟨es, clock, hk.trans hb, F, hs, hD⟩, r⟩
theorem PM.look_ok (h : PM w m f N) (i : Nat) (hi : i < 1000000) : (Instr.lookup 107 (.map (some m)) (.int .i64 (i : Int)) true).run Tryz.prog w = .ok (.tuple #[secV ((f i).getD z256), .bool (f i).isSome]) w := by
  obtain ⟨D, h1, h2⟩ := h
  obtain ⟨v, ps, hrun, hv⟩ := h1.look_ok (t := 107) law_int Tryz.underlying107 (zero_sec w) (zd := .held (secV z256)) (zp := []) rfl (key_nat i hi)
  rw [hrun, h2.has i]
  have hv2 : v = secV ((f i).getD z256) := by
    simp only [secE, Option.some.injEq, Prod.mk.injEq] at hv
    cases hf : f i with
    | none =>
      have h3 := h2.has i
      rw [hf] at h3
      rw [atKey_of_not_has h3] at hv
      simpa using hv.1
    | some l =>
      rw [h2.at_ i l hf] at hv
      simpa using hv.1
  rw [hv2]
theorem PM.look (h : PM w m f N) (i : Nat) (hi : i < 1000000) : (Instr.lookup 107 (.map (some m)) (.int .i64 (i : Int)) false).run Tryz.prog w = .ok (secV ((f i).getD z256)) w := by
  obtain ⟨D, h1, h2⟩ := h
  obtain ⟨v, ps, hrun, hv⟩ := h1.lookup (t := 107) law_int Tryz.underlying107 (zero_sec w) (zd := .held (secV z256)) (zp := []) rfl (key_nat i hi)
  rw [hrun]
  have hv2 : v = secV ((f i).getD z256) := by
    simp only [secE, Option.some.injEq, Prod.mk.injEq] at hv
    cases hf : f i with
    | none =>
      have h3 := h2.has i
      rw [hf] at h3
      rw [atKey_of_not_has h3] at hv
      simpa using hv.1
    | some l =>
      rw [h2.at_ i l hf] at hv
      simpa using hv.1
  rw [hv2]
theorem PM.put (h : PM w m f N) (hN : N < 1000000) (i : Nat) (hi : i < N) (l : List UInt8) :
    ∃ w', (Instr.mapUpdate 107 (.map (some m)) (.int .i64 (i : Int)) (secV l)).run Tryz.prog w = .ok () w' ∧ PM w' m (upd f i l) N ∧ w.grownBy w' (some m) := by
  obtain ⟨D, h1, h2⟩ := h
  have hk := key_nat i (by omega)
  obtain ⟨w', hrun, r1, r2⟩ := h1.update (t := 107) law_int Tryz.underlying107 (by unfold maxLen; omega) (val := secV l) (d := .held (secV l)) (ps := []) hk rfl
  have told : Told (upd f i l) N (D.put (.int .i64 i) (.held (secV l))) := by
    refine ⟨fun j => ?_, fun j m hm z => ?_, fun x hx => ?_⟩
    · by_cases hj : j = i
      · subst hj
        rw [has_put_same h1.isMap (law_int.key hk), upd, if_pos rfl]; rfl
      · rw [has_put_other (nat_ne hj), upd, if_neg hj]; exact h2.has j
    · unfold upd at hm
      by_cases hj : j = i
      · subst hj
        rw [if_pos rfl] at hm
        obtain rfl := Option.some.inj hm
        exact atKey_put_same h1.isMap (law_int.key hk) _ _
      · rw [if_neg hj] at hm
        rw [atKey_put_other (nat_ne hj)]
        exact h2.at_ j m hm z
    · by_cases hj : Lit.int .i64 x = Lit.int .i64 i
      · simp only [Lit.int.injEq, true_and] at hj
        exact ⟨i, hi, hj⟩
      · rw [has_put_other hj] at hx
        exact h2.num x hx
  exact ⟨w', hrun, ⟨_, tight r1 told.num, told⟩, r2⟩
theorem PM.clear (h : PM w m f N) (ty : TypeId) : ∃ w', (Builtin.clear_ #[107] ty #[.map (some m)]).run Tryz.prog w = .ok (.tuple #[]) w' ∧ PM w' m (fun _ => none) N ∧ w.grownBy w' (some m) := by
  obtain ⟨D, ⟨es, clock, hb, F, hs, hD⟩, h2⟩ := h
  refine ⟨ChangeMaps.setBlock w m (.map #[] clock), ?_, ⟨.map [], ⟨#[], clock, ChangeMaps.heap_setBlock_same hb _, ⟨by simp, MapKept.stamped_empty clock, by simp⟩, Nat.zero_le _, rfl⟩, Told.none N⟩, ⟨rfl, rfl, rfl, by simp [ChangeMaps.setBlock], fun i _ hi => ChangeMaps.heap_setBlock_other hb _ (fun e => hi (by rw [e]))⟩⟩
  simp [Builtin.clear_, run_underlying Tryz.underlying107, MapKept.run_getObj_map hb, MapKept.run_setObj_map (.map #[] clock) hb, Result.andThen, ChangeMaps.setBlock]
end
end
section
open Go.RowKit Go.Maps
def PR (w : World) (m r : Nat) (f : Nat → Option (List UInt8)) (N : Nat) (left : Nat → Bool) (cnt : Nat) : Prop :=
  ∃ (D : DataW Value) (lf : Lit → Bool), w.ranges Tryz.prog 3 secE m r N D lf cnt ∧ Told f N D ∧ ∀ i : Nat, left i = lf (.int .i64 i)
section
variable {w w' : World} {m r N cnt : Nat} {f : Nat → Option (List UInt8)} {left : Nat → Bool}
theorem PR.left_eq (h : PR w m r f N left cnt) : w.rangeLeft m r = cnt := by
  obtain ⟨D, lf, h1, _, _⟩ := h
  exact h1.left_eq
theorem PR.lt (h : PR w m r f N left cnt) : r < w.heap.size := by
  obtain ⟨D, lf, h1, _, _⟩ := h
  exact h1.lt
theorem PR.kept (h : PR w m r f N left cnt) {row : Option Nat} (hg : w.grownBy w' row) (hm : some m ≠ row) (hr : some r ≠ row) : PR w' m r f N left cnt := by
  obtain ⟨D, lf, h1, h2, h3⟩ := h
  exact ⟨D, lf, h1.kept hg hm hr, h2, h3⟩
end
section
variable {ops : Array Oper} {rest : List Oper} {o : Oper} {a : Act} {w : World} {Q : Exit → Act → World → Prop}
theorem wpList_range_pm (hg : o.guard = none) (x : Operand) (hop : o.op = Op.range 107 x) (m N : Nat) (f : Nat → Option (List UInt8)) (hx : a.eval x = .map (some m)) (h : PM w m f N)
    (hK : ∀ w' cnt, PR w' m w.heap.size f N (fun i => (f i).isSome) cnt → w.grownBy w' none → wpList Tryz.prog ops Q rest (a.put o.dst (.pointer (some ⟨w.heap.size, 0, none⟩))) w') :
    wpList Tryz.prog ops Q (o :: rest) a w := by
  obtain ⟨D, h1, h2⟩ := h
  refine wpList_range_own w hg x 107 hop 3 112 law_int Tryz.underlying107 secE m N D hx h1 ?_
  intro w' r1 r2 _
  exact hK w' _ ⟨D, _, r1, h2, fun i => (h2.has i).symm⟩ r2
theorem wpList_next_pm (hg : o.guard = none) (it : Operand) (hop : o.op = Op.next it false) (m r N cnt : Nat) (f : Nat → Option (List UInt8)) (left : Nat → Bool) (hit : a.eval it = .pointer (some ⟨r, 0, none⟩)) (h : PR w m r f N left cnt)
    (hDone : (∀ i, left i = false) → wpList Tryz.prog ops Q rest (a.put o.dst (.tuple #[.bool false])) w)
    (hMore : ∀ (i : Nat) (l : List UInt8) (w' : World) (cnt' : Nat), i < N → f i = some l → left i = true → PR w' m r f N (fun j => left j && !decide (j = i)) cnt' → cnt' < cnt → w.grownBy w' (some r) → w'.heap.size = w.heap.size →
      (Instr.entry (.pointer (some ⟨r, 0, none⟩))).run Tryz.prog w' = .ok (.tuple #[.int .i64 (i : Int), secV l]) w' → wpList Tryz.prog ops Q rest (a.put o.dst (.tuple #[.bool true, .int .i64 (i : Int), secV l])) w') :
    wpList Tryz.prog ops Q (o :: rest) a w := by
  obtain ⟨D, lf, h1, h2, h3⟩ := h
  refine wpList_next_ranges w hg it hop 3 law_int secE encZ id (fun key kl hk => by obtain ⟨x, hx, _⟩ := Maps.keyOf_i64 Tryz.underlying3 hk; exact ⟨x, hx⟩) (fun v _ _ => ⟨v, rfl⟩) m r N D lf cnt hit h1 ?_ ?_
  · intro _ hl
    exact hDone fun i => (h3 i).trans (hl _)
  · intro x c kl y w' cnt' hkey hlk hv hat hrg hlt hgr hsz hen
    obtain ⟨x', ex, rfl, _⟩ := Maps.keyOf_i64 Tryz.underlying3 hkey
    obtain rfl := encZ_inj ex
    obtain ⟨i, hi, rfl⟩ := h2.num x (has_true_of_atKey hat)
    have hs := h2.has i
    rw [has_true_of_atKey hat] at hs
    cases hf : f i with
    | none => rw [hf] at hs; cases hs
    | some l =>
      have hc : c = secV l := by
        have e1 := h2.at_ i l hf (.held (secV z256))
        rw [hat] at e1
        simp only [secE, id_eq, Option.some.injEq] at hv
        rw [← hv] at e1
        simpa using e1
      subst hc
      refine hMore i l w' cnt' hi hf ((h3 i).trans hlk) ⟨D, _, hrg, h2, fun j => ?_⟩ hlt hgr hsz hen
      show (left j && !decide (j = i)) = _
      rw [h3 j]
      congr 1
      by_cases hj : j = i
      · subst hj; simp [Lit.sameKey]
      · simp [Lit.sameKey, hj]; omega
end
section
variable {ops : Array Oper} {rest : List Oper} {o : Oper} {a : Act} {w : World} {Q : Exit → Act → World → Prop}
theorem wpList_put_pm (hg : o.guard = none) (x y v : Operand) (hop : o.op = Op.mapUpdate 107 x y v) (m N : Nat) (f : Nat → Option (List UInt8)) (hx : a.eval x = .map (some m)) (h : PM w m f N) (hN : N < 1000000) (i : Nat) (hi : i < N) (l : List UInt8)
    (hy : a.eval y = .int .i64 (i : Int)) (hv : a.eval v = secV l) (hK : ∀ w', PM w' m (upd f i l) N → w.grownBy w' (some m) → wpList Tryz.prog ops Q rest (a.put o.dst undef) w') : wpList Tryz.prog ops Q (o :: rest) a w := by
  refine wpList_plain hg fun K' hK' => ?_
  obtain ⟨w', hrun, r1, r2⟩ := h.put hN i hi l
  unfold Oper.wp
  simp [execOp, hop, hx, hy, hv, hrun, Result.andThen]
  exact hK' _ _ (hK w' r1 r2)
theorem wpList_look_pm (hg : o.guard = none) (x y : Operand) (hop : o.op = Op.lookup 107 x y true) (m N : Nat) (f : Nat → Option (List UInt8)) (hx : a.eval x = .map (some m)) (h : PM w m f N) (i : Nat) (hi : i < 1000000) (hy : a.eval y = .int .i64 (i : Int))
    (v : Value) (hv : .tuple #[secV ((f i).getD z256), .bool (f i).isSome] = v) (hK : wpList Tryz.prog ops Q rest (a.put o.dst v) w) : wpList Tryz.prog ops Q (o :: rest) a w := by
  refine wpList_plain hg fun K' hK' => ?_
  have hrun := h.look_ok i hi
  rw [hv] at hrun
  unfold Oper.wp
  simp [execOp, hop, hx, hy, hrun, Result.andThen]
  exact hK' _ _ hK
theorem wpList_clear_pm (hg : o.guard = none) (x : Operand) (hop : o.op = Op.call { callee := Callee.builtin Builtin.clear, args := #[x], argTypes := #[107] }) (m N : Nat) (f : Nat → Option (List UInt8)) (hx : a.eval x = .map (some m)) (h : PM w m f N)
    (hK : ∀ w', PM w' m (fun _ => none) N → w.grownBy w' (some m) → wpList Tryz.prog ops Q rest (a.put o.dst (.tuple #[])) w') : wpList Tryz.prog ops Q (o :: rest) a w := by
  refine wpList_plain hg fun K' hK' => ?_
  obtain ⟨w', hrun, r1, r2⟩ := h.clear o.type
  unfold Oper.wp execOp
  simp only [hop, resolve, invoke, builtin, Sem.run_bind, Sem.run_pure, Result.andThen_ok, List.map_toArray, List.map_cons, List.map_nil, hx, hrun]
  exact hK' _ _ (hK w' r1 r2)
end
def held (f : Nat → Option (List UInt8)) (N : Nat) : List Nat := (List.range N).filter fun i => (f i).isSome
theorem mem_held {f : Nat → Option (List UInt8)} {N i : Nat} : i ∈ held f N ↔ i < N ∧ (f i).isSome = true := by simp [held]
theorem held_rising (f : Nat → Option (List UInt8)) (N : Nat) : (held f N).Pairwise (· < ·) := List.Pairwise.filter _ List.pairwise_lt_range
theorem sorted_keys {w : World} {m n N : Nat} {f : Nat → Option (List UInt8)} {D : DataW Value} (h : w.ownsMap Tryz.prog 3 secE m n D) (ht : Told f N D) (hf : ∀ i l, f i = some l → i < N) {ss : List Int} (hp : ss.Perm (intKeys D)) :
    ss.mergeSort (fun x y => decide (x ≤ y)) = (held f N).map fun i : Nat => (i : Int) := by
  obtain ⟨k1, k2⟩ := nodup_keys h
  have tr : ∀ a b c : Int, leI a b = true → leI b c = true → leI a c = true := fun a b c h1 h2 => by simp only [leI, decide_eq_true_eq] at *; exact Int.le_trans h1 h2
  have to : ∀ a b : Int, (leI a b || leI b a) = true := fun a b => by simp only [leI, Bool.or_eq_true, decide_eq_true_eq]; exact Int.le_total a b
  have hn : ((held f N).map fun i : Nat => (i : Int)).Nodup := by
    refine List.pairwise_map.2 (List.Pairwise.imp (fun {a b} hab e => ?_) (held_rising f N))
    omega
  have hperm : ss.Perm ((held f N).map fun i : Nat => (i : Int)) := hp.trans ((List.perm_ext_iff_of_nodup k1 hn).2 fun x => by
    rw [k2 x, List.mem_map]
    constructor
    · intro hx
      obtain ⟨i, hi, rfl⟩ := ht.num x hx
      exact ⟨i, mem_held.2 ⟨hi, (ht.has i).symm.trans hx⟩, rfl⟩
    · rintro ⟨i, hi, rfl⟩
      exact (ht.has i).trans (mem_held.1 hi).2)
  refine List.Perm.eq_of_pairwise (le := fun a b => leI a b = true) (fun a b _ _ h1 h2 => ?_) (List.pairwise_mergeSort tr to ss) ?_ ((List.mergeSort_perm ss leI).trans hperm)
  · simp only [leI, decide_eq_true_eq] at h1 h2
    exact Int.le_antisymm h1 h2
  · refine List.pairwise_map.2 (List.Pairwise.imp (fun {a b} hab => ?_) (held_rising f N))
    simp only [leI, decide_eq_true_eq]
    omega
end
section
open Go.RowKit Go.ChangeShapes Go.WideShapes Go.Joins
theorem cells_byte : Tryz.prog.cellsOf 5 = 1 := by kernel_rfl
def byteOf (z : Int) : UInt8 := UInt8.ofNat z.toNat
theorem byteOf_nat {z : Int} (h : (Lit.int .u8 z).wf = true) : ((byteOf z).toNat : Int) = z := by
  have hx : 0 ≤ z ∧ z ≤ 255 := by simpa [Lit.wf, IntKind.min, IntKind.max, IntKind.signed, IntKind.bits] using h
  unfold byteOf
  have : (UInt8.ofNat z.toNat).toNat = z.toNat % 256 := by simp
  rw [this]
  omega
theorem BS_of_trod {H : Type} {enc : TypeId × Value → H} {W : World} {fuel : Nat} {v : Value} {x : DataW H × List MemPlace}
    (h : DataW.trod enc Tryz.prog W 0 (fun _ => true) true fuel 55 [v] = some x) : ∃ l, BS W (fun _ => True) v l := by
  rcases open_ints Tryz.underlying55 Tryz.underlying5 cells_byte h with ⟨hcs, _⟩ | ⟨a, len, cap, zs, hcs, _, hl, hm, hz, _, hcell, hwz⟩
  · simp at hcs
    subst hcs
    exact ⟨[], BS.nil _ _⟩
  · simp at hcs
    subst hcs
    simp only [if_true] at hz
    have hlen : ((zs.take len).map byteOf).length = len := by simp; omega
    refine ⟨(zs.take len).map byteOf, some a, cap, by rw [hlen], by omega, hm, (fun h => by cases h), fun h0 => ?_⟩
    rw [hlen] at h0
    obtain ⟨b, o, rfl, hc⟩ := ints_at hcell (by omega)
    refine ⟨b, o, rfl, trivial, World.block_lt_of_cell? _ _ (hc 0 (by omega)), fun j u hu => ?_⟩
    have hj : j < len := by
      have := (List.getElem?_eq_some_iff.1 hu).1
      omega
    rw [hc j (by omega)]
    have hjz : j < zs.length := by omega
    simp [hj, List.getElem?_eq_getElem hjz] at hu
    subst hu
    unfold bv
    rw [byteOf_nat (hwz _ (List.getElem_mem hjz))]
    simp [List.getD, List.getElem?_eq_getElem hjz]
theorem cells_bytes : Tryz.prog.cellsOf 55 = 1 := by kernel_rfl
end
section
open Go.RowKit Go.ChangeShapes Go.WideShapes Go.Joins
def strV (l : List UInt8) : Value := .string ⟨l.toArray⟩
theorem cells_str : Tryz.prog.cellsOf 9 = 1 := by kernel_rfl
theorem str_eq (l m : List UInt8) : ((⟨l.toArray⟩ : ByteArray).toList == (⟨m.toArray⟩ : ByteArray).toList) = decide (l = m) := by
  rw [Lib.toList_data, Lib.toList_data]
  show (l == m) = _
  by_cases h : l = m
  · rw [decide_eq_true h]; exact beq_iff_eq.2 h
  · rw [decide_eq_false h]; exact beq_eq_false_iff_ne.2 h
theorem conv_str (w : World) (l : List UInt8) (hl : l.length ≤ maxLen) : ∃ c w', (convert 9 55 (strV l)).run Tryz.prog w = .ok (.slice (some ⟨w.heap.size, 0, none⟩) l.length c) w' ∧
    BS w' (fun b => w.heap.size ≤ b ∧ b < w'.heap.size) (.slice (some ⟨w.heap.size, 0, none⟩) l.length c) l ∧ Below w.heap.size w w' := by
  refine ⟨_, _, Lib.run_convert_string_bytes (P := Tryz.prog) w 9 55 5 ⟨l.toArray⟩ (u := .string) Tryz.underlying9 Tryz.underlying55 Tryz.underlying5, ?_, ?_⟩
  · refine ⟨_, _, rfl, grownCap_ge _ _ _ _, grownCap_le_maxLen _ _ _ _ hl, (fun h => by cases h), fun h0 => ⟨w.heap.size, 0, rfl, ⟨Nat.le_refl _, by rw [Lib.bytesWorld_size]; omega⟩, by rw [Lib.bytesWorld_size]; omega, fun j u hu => ?_⟩⟩
    have hj := (List.getElem?_eq_some_iff.1 hu).1
    rw [Nat.zero_add, Lib.bytesWorld_cell w _ ⟨l.toArray⟩ j hj]
    simp [hu]
  · exact ⟨rfl, rfl, rfl, by rw [Lib.bytesWorld_size]; omega, fun j hj => Lib.bytesWorld_at_old w _ _ j hj⟩
end
section
open Go.RowKit Go.Maps
theorem law_str : Keyed Tryz.prog 9 := string_keyed Tryz.underlying9
theorem key_str {n : List UInt8} (h : n.length ≤ maxLen) : keyOf Tryz.prog 9 (strV n) = some (.string n) := WideMaps.keyOf_string_mk Tryz.underlying9 h
theorem str_inv {v : Value} {kl : Lit} (h : keyOf Tryz.prog 9 v = some kl) : ∃ n : List UInt8, v = strV n ∧ kl = .string n := by
  obtain ⟨x, hx, hk, _⟩ := Maps.keyOf_str Tryz.underlying9 h
  subst hk
  exact ⟨x, hx, rfl⟩
theorem lit_ne {n m : List UInt8} (h : m ≠ n) : Lit.string m ≠ Lit.string n := fun e => h (by injection e)
structure ToldT (g : List UInt8 → Option Value) (k : Nat) (D : DataW Value) : Prop where
  has : ∀ n, has D (.string n) = (g n).isSome
  at_ : ∀ n v, g n = some v → ∀ z, D.atKey (.string n) z = .held v
  size : Maps.size D = k
def updT (g : List UInt8 → Option Value) (n : List UInt8) (v : Value) : List UInt8 → Option Value := fun m => if m = n then some v else g m
def delT (g : List UInt8 → Option Value) (n : List UInt8) : List UInt8 → Option Value := fun m => if m = n then none else g m
def MT (w : World) (m : Nat) (g : List UInt8 → Option Value) (k : Nat) : Prop := ∃ D : DataW Value, w.ownsMap Tryz.prog 9 secE m k D ∧ ToldT g k D
theorem tight_str {w : World} {m n : Nat} {D : DataW Value} (h : w.ownsMap Tryz.prog 9 secE m n D) : w.ownsMap Tryz.prog 9 secE m (Maps.size D) D := by
  obtain ⟨es, clock, hb, F, hs, rfl⟩ := h
  refine ⟨es, clock, hb, F, ?_, rfl⟩
  simp [Maps.size, length_sorted]
section
variable {w w' : World} {m k : Nat} {g : List UInt8 → Option Value} {t e : TypeId} {z : Value}
theorem MT.made (w : World) : MT (w.alloc (.map #[] 0)) w.heap.size (fun _ => none) 0 := ⟨.map [], World.ownsMap_made w _ _ _, fun _ => rfl, fun _ _ h => (by cases h), rfl⟩
theorem MT.lt (h : MT w m g k) : m < w.heap.size := h.choose_spec.1.lt
theorem MT.keep (h : MT w m g k) (hk : w'.heap[m]? = w.heap[m]?) : MT w' m g k := by
  obtain ⟨D, ⟨es, clock, hb, F, hs, hD⟩, r⟩ := h
  exact ⟨D, ⟨es, clock, hk.trans hb, F, hs, hD⟩, r⟩
theorem MT.below (h : MT w m g k) (hb : Below w.heap.size w w') : MT w' m g k := h.keep (hb.block m h.lt)
theorem MT.told {D : DataW Value} (h : ToldT g k D) {n : List UInt8} {v : Value} {ps : List MemPlace} (hv : secE v = some (D.atKey (.string n) (.held z), ps)) : v = (g n).getD z := by
  simp only [secE, Option.some.injEq, Prod.mk.injEq] at hv
  cases hg : g n with
  | none =>
    have h3 := h.has n
    rw [hg] at h3
    rw [atKey_of_not_has h3] at hv
    simpa using hv.1
  | some u =>
    rw [h.at_ n u hg] at hv
    simpa using hv.1
theorem MT.look_ok (h : MT w m g k) (ht : Tryz.prog.underlying t = some (.map 9 e)) (hz : (zeroValue e).run Tryz.prog w = .ok z w) {n : List UInt8} (hn : n.length ≤ maxLen) :
    (Instr.lookup t (.map (some m)) (strV n) true).run Tryz.prog w = .ok (.tuple #[(g n).getD z, .bool (g n).isSome]) w := by
  obtain ⟨D, h1, h2⟩ := h
  obtain ⟨v, ps, hrun, hv⟩ := h1.look_ok (t := t) law_str ht hz (zd := .held z) (zp := []) rfl (key_str hn)
  rw [hrun, h2.has n, MT.told h2 hv]
theorem MT.look (h : MT w m g k) (ht : Tryz.prog.underlying t = some (.map 9 e)) (hz : (zeroValue e).run Tryz.prog w = .ok z w) {n : List UInt8} (hn : n.length ≤ maxLen) :
    (Instr.lookup t (.map (some m)) (strV n) false).run Tryz.prog w = .ok ((g n).getD z) w := by
  obtain ⟨D, h1, h2⟩ := h
  obtain ⟨v, ps, hrun, hv⟩ := h1.lookup (t := t) law_str ht hz (zd := .held z) (zp := []) rfl (key_str hn)
  rw [hrun, MT.told h2 hv]
theorem MT.put (h : MT w m g k) (ht : Tryz.prog.underlying t = some (.map 9 e)) (hk : k < maxLen) {n : List UInt8} (hn : n.length ≤ maxLen) (v : Value) :
    ∃ w', (Instr.mapUpdate t (.map (some m)) (strV n) v).run Tryz.prog w = .ok () w' ∧ MT w' m (updT g n v) (if (g n).isSome = true then k else k + 1) ∧ w.grownBy w' (some m) := by
  obtain ⟨D, h1, h2⟩ := h
  have hkey := key_str hn
  have htd := h1.tidy law_str
  obtain ⟨w', hrun, r1, r2⟩ := h1.update (t := t) law_str ht hk (val := v) (d := .held v) (ps := []) hkey rfl
  have hsz : Maps.size (D.put (.string n) (.held v)) = if (g n).isSome = true then k else k + 1 := by
    rw [size_put htd, h2.has n, h2.size]
  refine ⟨w', hrun, ⟨_, hsz ▸ tight_str r1, fun j => ?_, fun j u hu z => ?_, hsz⟩, r2⟩
  · unfold updT
    by_cases hj : j = n
    · subst hj
      rw [has_put_same h1.isMap (law_str.key hkey), if_pos rfl]; rfl
    · rw [has_put_other (lit_ne hj), if_neg hj]; exact h2.has j
  · unfold updT at hu
    by_cases hj : j = n
    · subst hj
      rw [if_pos rfl] at hu
      obtain rfl := Option.some.inj hu
      exact atKey_put_same h1.isMap (law_str.key hkey) _ _
    · rw [if_neg hj] at hu
      rw [atKey_put_other (lit_ne hj)]
      exact h2.at_ j u hu z
theorem MT.del (h : MT w m g k) (ht : Tryz.prog.underlying t = some (.map 9 e)) {n : List UInt8} (hn : n.length ≤ maxLen) (ty : TypeId) :
    ∃ w', (Builtin.delete_ #[t, 9] ty #[.map (some m), strV n]).run Tryz.prog w = .ok (.tuple #[]) w' ∧ MT w' m (delT g n) (if (g n).isSome = true then k - 1 else k) ∧ w.grownBy w' (some m) := by
  obtain ⟨D, h1, h2⟩ := h
  have htd := h1.tidy law_str
  obtain ⟨w', hrun, r1, r2⟩ := h1.drop law_str ht (key_str hn) ty
  have hsz : Maps.size (D.del (.string n)) = if (g n).isSome = true then k - 1 else k := by
    have := size_del (k := .string n) htd
    rw [h2.has n, h2.size] at this
    split at this
    · rw [if_pos (by assumption)]; omega
    · rw [if_neg (by assumption)]; omega
  refine ⟨w', hrun, ⟨_, hsz ▸ tight_str r1, fun j => ?_, fun j u hu z => ?_, hsz⟩, r2.grown⟩
  · unfold delT
    by_cases hj : j = n
    · subst hj
      rw [has_del_same, if_pos rfl]; rfl
    · rw [has_del_other (lit_ne hj), if_neg hj]; exact h2.has j
  · unfold delT at hu
    by_cases hj : j = n
    · rw [if_pos hj] at hu; cases hu
    · rw [if_neg hj] at hu
      rw [atKey_del_other (lit_ne hj)]
      exact h2.at_ j u hu z
theorem MT.len (h : MT w m g k) (ht : Tryz.prog.underlying t = some (.map 9 e)) (ty : TypeId) : (Builtin.len_ #[t] ty #[.map (some m)]).run Tryz.prog w = .ok (.int .i64 k) w := by
  obtain ⟨D, h1, h2⟩ := h
  rw [h1.len ht ty, h2.size]
theorem MT.same {g' : List UInt8 → Option Value} (h : MT w m g k) (hg : ∀ n, g n = g' n) : MT w m g' k := by
  obtain rfl : g = g' := funext hg
  exact h
end
def RT (w : World) (m r : Nat) (g : List UInt8 → Option Value) (k : Nat) (left : List UInt8 → Bool) (cnt : Nat) : Prop :=
  ∃ (D : DataW Value) (lf : Lit → Bool), w.ranges Tryz.prog 9 secE m r k D lf cnt ∧ ToldT g k D ∧ ∀ n, left n = lf (.string n)
section
variable {w w' : World} {m r k cnt : Nat} {g : List UInt8 → Option Value} {left : List UInt8 → Bool}
theorem RT.left_eq (h : RT w m r g k left cnt) : w.rangeLeft m r = cnt := by
  obtain ⟨D, lf, h1, _, _⟩ := h
  exact h1.left_eq
theorem RT.lt (h : RT w m r g k left cnt) : r < w.heap.size := by
  obtain ⟨D, lf, h1, _, _⟩ := h
  exact h1.lt
theorem RT.kept (h : RT w m r g k left cnt) {row : Option Nat} (hg : w.grownBy w' row) (hm : some m ≠ row) (hr : some r ≠ row) : RT w' m r g k left cnt := by
  obtain ⟨D, lf, h1, h2, h3⟩ := h
  exact ⟨D, lf, h1.kept hg hm hr, h2, h3⟩
end
section
variable {ops : Array Oper} {rest : List Oper} {o : Oper} {a : Act} {w : World} {Q : Exit → Act → World → Prop}
theorem wpList_range_mt (hg : o.guard = none) (x : Operand) (t e : TypeId) (hop : o.op = Op.range t x) (ht : Tryz.prog.underlying t = some (.map 9 e)) (m k : Nat) (g : List UInt8 → Option Value) (hx : a.eval x = .map (some m)) (h : MT w m g k)
    (hK : ∀ w' cnt, RT w' m w.heap.size g k (fun n => (g n).isSome) cnt → w.grownBy w' none → wpList Tryz.prog ops Q rest (a.put o.dst (.pointer (some ⟨w.heap.size, 0, none⟩))) w') :
    wpList Tryz.prog ops Q (o :: rest) a w := by
  obtain ⟨D, h1, h2⟩ := h
  refine wpList_range_own w hg x t hop 9 e law_str ht secE m k D hx h1 ?_
  intro w' r1 r2 _
  exact hK w' _ ⟨D, _, r1, h2, fun n => (h2.has n).symm⟩ r2
theorem wpList_next_mt (hg : o.guard = none) (it : Operand) (hop : o.op = Op.next it false) (m r k cnt : Nat) (g : List UInt8 → Option Value) (left : List UInt8 → Bool) (hit : a.eval it = .pointer (some ⟨r, 0, none⟩)) (h : RT w m r g k left cnt)
    (hDone : (∀ n, left n = false) → wpList Tryz.prog ops Q rest (a.put o.dst (.tuple #[.bool false])) w)
    (hMore : ∀ (n : List UInt8) (v : Value) (w' : World) (cnt' : Nat), g n = some v → left n = true → RT w' m r g k (fun j => left j && !decide (j = n)) cnt' → cnt' < cnt → w.grownBy w' (some r) → w'.heap.size = w.heap.size →
      (Instr.entry (.pointer (some ⟨r, 0, none⟩))).run Tryz.prog w' = .ok (.tuple #[strV n, v]) w' → wpList Tryz.prog ops Q rest (a.put o.dst (.tuple #[.bool true, strV n, v])) w') :
    wpList Tryz.prog ops Q (o :: rest) a w := by
  obtain ⟨D, lf, h1, h2, h3⟩ := h
  refine wpList_next_ranges w hg it hop 9 law_str secE strV id (fun key kl hk => by obtain ⟨x, hx, _⟩ := str_inv hk; exact ⟨x, hx⟩) (fun v _ _ => ⟨v, rfl⟩) m r k D lf cnt hit h1 ?_ ?_
  · intro _ hl
    exact hDone fun n => (h3 n).trans (hl _)
  · intro x c kl y w' cnt' hkey hlk hv hat hrg hlt hgr hsz hen
    obtain ⟨x', ex, rfl⟩ := str_inv hkey
    obtain rfl : x = x' := by
      unfold strV at ex
      simp only [Value.string.injEq, ByteArray.mk.injEq] at ex
      simpa using ex
    have hs := h2.has x
    rw [has_true_of_atKey hat] at hs
    cases hgx : g x with
    | none => rw [hgx] at hs; cases hs
    | some v =>
      have hc : c = v := by
        have e1 := h2.at_ x v hgx (.held undef)
        rw [hat] at e1
        simp only [secE, id_eq, Option.some.injEq] at hv
        rw [← hv] at e1
        simpa using e1
      subst hc
      refine hMore x c w' cnt' hgx ((h3 x).trans hlk) ⟨D, _, hrg, h2, fun j => ?_⟩ hlt hgr hsz hen
      show (left j && !decide (j = x)) = _
      rw [h3 j]
      congr 1
      by_cases hj : j = x
      · subst hj; simp [Lit.sameKey]
      · rw [sameKey_ne (lit_ne hj)]; simp [hj]
end
end
end Go.Proofs.YteddmnoeljakpaaGreatDoor
