/-
  A map of sectors by their numbers: looked up, put, cleared, gone through; over the loaded program. No condition but what each theorem names.
-/
import Derived.Test.YtmknemaocbbpeaaDkS
import Derived.Test.YtmknemaocbbpeaaKp
import Derived.Maps.OwnSet
import Derived.Maps.RangeWalk
import Derived.Lib.SlKeysI
namespace Go.Proofs.Ytmknemaocbbpeaa
open Go.RowKit Go.Maps
set_option linter.unusedVariables false

theorem law_int : Keyed Try.prog 3 := int_keyed Try.underlying3
theorem key_nat (i : Nat) (h : i < 1000000) : keyOf Try.prog 3 (.int .i64 (i : Int)) = some (.int .i64 (i : Int)) :=
  keyOf_int_mk Try.underlying3 (by simp [Lit.wf, IntKind.min, IntKind.max, IntKind.signed, IntKind.bits]; omega)
theorem nat_ne {i j : Nat} (h : j ≠ i) : Lit.int .i64 (j : Int) ≠ Lit.int .i64 (i : Int) := by
  intro e
  simp only [Lit.int.injEq, true_and] at e
  omega

/-- An element of a map, told as it is. -/
def secE (v : Value) : Option (DataW Value × List MemPlace) := some (.held v, [])

/-- What a map tells of the sectors below N: at i it holds f i. -/
structure Told (f : Nat → Option (List UInt8)) (N : Nat) (D : DataW Value) : Prop where
  has : ∀ i : Nat, has D (.int .i64 i) = (f i).isSome
  at_ : ∀ (i : Nat) (l : List UInt8), f i = some l → ∀ z, D.atKey (.int .i64 i) z = .held (secV l)
  num : ∀ x : Int, Maps.has D (.int .i64 x) = true → ∃ i : Nat, i < N ∧ x = i

/-- f, but l at i. -/
def upd (f : Nat → Option (List UInt8)) (i : Nat) (l : List UInt8) : Nat → Option (List UInt8) := fun j => if j = i then some l else f j

/-- Block m is a map: of the sectors below N it holds f. -/
def PM (w : World) (m : Nat) (f : Nat → Option (List UInt8)) (N : Nat) : Prop :=
  ∃ D : DataW Value, w.ownsMap Try.prog 3 secE m N D ∧ Told f N D

theorem Told.none (N : Nat) : Told (fun _ => none) N (.map []) := ⟨fun _ => rfl, fun _ _ h => (by cases h), fun _ h => (by cases h)⟩

theorem few_nats : ∀ (n : Nat) (l : List Nat), l.Nodup → (∀ x ∈ l, x < n) → l.length ≤ n
  | 0, l, _, hm => by
    cases l with
    | nil => simp
    | cons a r => exact absurd (hm a (by simp)) (by omega)
  | n + 1, l, hd, hm => by
    by_cases h : n ∈ l
    · have h1 := few_nats n (l.erase n) (hd.erase n) fun x hx => by
        have h2 := hm x (List.mem_of_mem_erase hx)
        have h3 : x ≠ n := fun e => by subst e; exact (hd.not_mem_erase) hx
        omega
      have := List.length_erase_of_mem h
      omega
    · have := few_nats n l hd fun x hx => by
        have h2 := hm x hx
        have h3 : x ≠ n := fun e => h (e ▸ hx)
        omega
      omega

theorem nodup_keys {w : World} {m n : Nat} {D : DataW Value} (h : w.ownsMap Try.prog 3 secE m n D) : (intKeys D).Nodup ∧ ∀ x, x ∈ intKeys D ↔ has D (.int .i64 x) = true := by
  obtain ⟨es, hD, hpw, _⟩ := h.entries law_int
  obtain ⟨es', hD', hko⟩ := h.keysOf
  obtain rfl : es = es' := by rw [hD] at hD'; simpa using hD'
  subst hD
  have hk : ∀ p ∈ es, ∃ x, p.1 = .int .i64 x := fun p hp => by obtain ⟨v, hv⟩ := hko p hp; obtain ⟨x, _, hx, _⟩ := Maps.keyOf_i64 Try.underlying3 hv; exact ⟨x, hx⟩
  refine ⟨?_, fun x => ?_⟩
  · show (es.map fun p => Go.intOf p.1).Nodup
    refine List.pairwise_map.2 (hpw.imp_of_mem fun {p q} hp' hq' hne e => hne ?_)
    obtain ⟨a, ha⟩ := hk p hp'
    obtain ⟨b, hb⟩ := hk q hq'
    rw [ha, hb] at e ⊢
    exact congrArg _ e
  · rw [has_eq, List.any_eq_true]
    show x ∈ es.map (fun p => Go.intOf p.1) ↔ _
    rw [List.mem_map]
    constructor
    · rintro ⟨p, hp', rfl⟩
      obtain ⟨a, ha⟩ := hk p hp'
      exact ⟨p, hp', by rw [ha]; simp [Lit.sameKey, Go.intOf]⟩
    · rintro ⟨p, hp', hs⟩
      obtain ⟨a, ha⟩ := hk p hp'
      rw [ha] at hs
      exact ⟨p, hp', by rw [ha]; simpa [Lit.sameKey, Go.intOf] using hs⟩

/-- A map whose keys are numbers below N has N entries at most. -/
theorem tight {w : World} {m n N : Nat} {D : DataW Value} (h : w.ownsMap Try.prog 3 secE m n D) (hN : ∀ x : Int, has D (.int .i64 x) = true → ∃ i : Nat, i < N ∧ x = i) : w.ownsMap Try.prog 3 secE m N D := by
  obtain ⟨k1, k2⟩ := nodup_keys h
  obtain ⟨es, clock, hb, F, hs, hD⟩ := h
  refine ⟨es, clock, hb, F, ?_, hD⟩
  have hlen : (intKeys D).length = es.size := by
    subst hD
    simp [intKeys, length_sorted]
  have h1 : ((intKeys D).map Int.toNat).Nodup := by
    refine List.pairwise_map.2 (List.Pairwise.imp_of_mem (fun {a b} ha hb hne e => hne ?_) k1)
    obtain ⟨i, _, rfl⟩ := hN a ((k2 a).1 ha)
    obtain ⟨j, _, rfl⟩ := hN b ((k2 b).1 hb)
    omega
  have h2 := few_nats N _ h1 fun x hx => by
    obtain ⟨a, ha, rfl⟩ := List.mem_map.1 hx
    obtain ⟨i, hi, rfl⟩ := hN a ((k2 a).1 ha)
    simpa using hi
  rw [List.length_map, hlen] at h2
  exact h2

section
variable {w w' : World} {m N : Nat} {f : Nat → Option (List UInt8)}
theorem PM.made (w : World) (N : Nat) : PM (w.alloc (.map #[] 0)) w.heap.size (fun _ => none) N := ⟨.map [], (World.ownsMap_made w _ _ _).mono (Nat.zero_le _), Told.none N⟩
theorem PM.lt (h : PM w m f N) : m < w.heap.size := h.choose_spec.1.lt
theorem PM.keep (h : PM w m f N) (hk : w'.heap[m]? = w.heap[m]?) : PM w' m f N := by
  obtain ⟨D, ⟨es, clock, hb, F, hs, hD⟩, r⟩ := h
  exact ⟨D, ⟨es, clock, hk.trans hb, F, hs, hD⟩, r⟩
/-- 'v, there := m[i]'. -/
theorem PM.look_ok (h : PM w m f N) (i : Nat) (hi : i < 1000000) : (Instr.lookup 53 (.map (some m)) (.int .i64 (i : Int)) true).run Try.prog w = .ok (.tuple #[secV ((f i).getD z256), .bool (f i).isSome]) w := by
  obtain ⟨D, h1, h2⟩ := h
  obtain ⟨v, ps, hrun, hv⟩ := h1.look_ok (t := 53) law_int Try.underlying53 (zero_sec w) (zd := .held (secV z256)) (zp := []) rfl (key_nat i hi)
  rw [hrun, h2.has i]
  have hv2 : v = secV ((f i).getD z256) := by
    simp only [secE, Option.some.injEq, Prod.mk.injEq] at hv
    cases hf : f i with
    | none =>
      have h3 := h2.has i
      rw [hf] at h3
      rw [atKey_of_not_has h3] at hv
      simpa using hv.1
    | some l =>
      rw [h2.at_ i l hf] at hv
      simpa using hv.1
  rw [hv2]
/-- 'm[i]'. -/
theorem PM.look (h : PM w m f N) (i : Nat) (hi : i < 1000000) : (Instr.lookup 53 (.map (some m)) (.int .i64 (i : Int)) false).run Try.prog w = .ok (secV ((f i).getD z256)) w := by
  obtain ⟨D, h1, h2⟩ := h
  obtain ⟨v, ps, hrun, hv⟩ := h1.lookup (t := 53) law_int Try.underlying53 (zero_sec w) (zd := .held (secV z256)) (zp := []) rfl (key_nat i hi)
  rw [hrun]
  have hv2 : v = secV ((f i).getD z256) := by
    simp only [secE, Option.some.injEq, Prod.mk.injEq] at hv
    cases hf : f i with
    | none =>
      have h3 := h2.has i
      rw [hf] at h3
      rw [atKey_of_not_has h3] at hv
      simpa using hv.1
    | some l =>
      rw [h2.at_ i l hf] at hv
      simpa using hv.1
  rw [hv2]
/-- 'm[i] = v'. -/
theorem PM.put (h : PM w m f N) (hN : N < 1000000) (i : Nat) (hi : i < N) (l : List UInt8) :
    ∃ w', (Instr.mapUpdate 53 (.map (some m)) (.int .i64 (i : Int)) (secV l)).run Try.prog w = .ok () w' ∧ PM w' m (upd f i l) N ∧ w.grownBy w' (some m) := by
  obtain ⟨D, h1, h2⟩ := h
  have hk := key_nat i (by omega)
  obtain ⟨w', hrun, r1, r2⟩ := h1.update (t := 53) law_int Try.underlying53 (by unfold maxLen; omega) (val := secV l) (d := .held (secV l)) (ps := []) hk rfl
  have told : Told (upd f i l) N (D.put (.int .i64 i) (.held (secV l))) := by
    refine ⟨fun j => ?_, fun j m hm z => ?_, fun x hx => ?_⟩
    · by_cases hj : j = i
      · subst hj
        rw [has_put_same h1.isMap (law_int.key hk), upd, if_pos rfl]; rfl
      · rw [has_put_other (nat_ne hj), upd, if_neg hj]; exact h2.has j
    · unfold upd at hm
      by_cases hj : j = i
      · subst hj
        rw [if_pos rfl] at hm
        obtain rfl := Option.some.inj hm
        exact atKey_put_same h1.isMap (law_int.key hk) _ _
      · rw [if_neg hj] at hm
        rw [atKey_put_other (nat_ne hj)]
        exact h2.at_ j m hm z
    · by_cases hj : Lit.int .i64 x = Lit.int .i64 i
      · simp only [Lit.int.injEq, true_and] at hj
        exact ⟨i, hi, hj⟩
      · rw [has_put_other hj] at hx
        exact h2.num x hx
  exact ⟨w', hrun, ⟨_, tight r1 told.num, told⟩, r2⟩
/-- 'clear(m)'. -/
theorem PM.clear (h : PM w m f N) (ty : TypeId) : ∃ w', (Builtin.clear_ #[53] ty #[.map (some m)]).run Try.prog w = .ok (.tuple #[]) w' ∧ PM w' m (fun _ => none) N ∧ w.grownBy w' (some m) := by
  obtain ⟨D, ⟨es, clock, hb, F, hs, hD⟩, h2⟩ := h
  refine ⟨ChangeMaps.setBlock w m (.map #[] clock), ?_, ⟨.map [], ⟨#[], clock, ChangeMaps.heap_setBlock_same hb _, ⟨by simp, MapKept.stamped_empty clock, by simp⟩, Nat.zero_le _, rfl⟩, Told.none N⟩, ⟨rfl, rfl, rfl, by simp [ChangeMaps.setBlock], fun i _ hi => ChangeMaps.heap_setBlock_other hb _ (fun e => hi (by rw [e]))⟩⟩
  simp [Builtin.clear_, run_underlying Try.underlying53, MapKept.run_getObj_map hb, MapKept.run_setObj_map (.map #[] clock) hb, Result.andThen, ChangeMaps.setBlock]
end
end Go.Proofs.Ytmknemaocbbpeaa
