/-
  DkM: A map of sectors by their numbers: looked up, put, cleared, gone through; over the loaded program. No condition but what each theorem names.
  DkR: A map of sectors gone through, and its keys in order; over the loaded program. No condition but what each theorem names.
-/
import Derived.Test.YtgoifhpinoodgaaGreatDoorWz06
import Derived.Maps.OwnSet
import Derived.Maps.RangeWalk
import Derived.Lib.SlKeysI

section
namespace Go.Proofs.YtgoifhpinoodgaaGreatDoor
open Go.RowKit Go.Maps
set_option linter.unusedVariables false

theorem law_int : Keyed Tryz.prog 3 := int_keyed Tryz.underlying3
theorem key_nat (i : Nat) (h : i < 1000000) : keyOf Tryz.prog 3 (.int .i64 (i : Int)) = some (.int .i64 (i : Int)) :=
  keyOf_int_mk Tryz.underlying3 (by simp [Lit.wf, IntKind.min, IntKind.max, IntKind.signed, IntKind.bits]; omega)
theorem nat_ne {i j : Nat} (h : j ≠ i) : Lit.int .i64 (j : Int) ≠ Lit.int .i64 (i : Int) := by
  intro e
  simp only [Lit.int.injEq, true_and] at e
  omega

/-- An element of a map, told as it is. -/
def secE (v : Value) : Option (DataW Value × List MemPlace) := some (.held v, [])

/-- What a map tells of the sectors below N: at i it holds f i. -/
structure Told (f : Nat → Option (List UInt8)) (N : Nat) (D : DataW Value) : Prop where
  has : ∀ i : Nat, has D (.int .i64 i) = (f i).isSome
  at_ : ∀ (i : Nat) (l : List UInt8), f i = some l → ∀ z, D.atKey (.int .i64 i) z = .held (secV l)
  num : ∀ x : Int, Maps.has D (.int .i64 x) = true → ∃ i : Nat, i < N ∧ x = i

/-- f, but l at i. -/
def upd (f : Nat → Option (List UInt8)) (i : Nat) (l : List UInt8) : Nat → Option (List UInt8) := fun j => if j = i then some l else f j

/-- Block m is a map: of the sectors below N it holds f. -/
def PM (w : World) (m : Nat) (f : Nat → Option (List UInt8)) (N : Nat) : Prop :=
  ∃ D : DataW Value, w.ownsMap Tryz.prog 3 secE m N D ∧ Told f N D

theorem Told.none (N : Nat) : Told (fun _ => none) N (.map []) := ⟨fun _ => rfl, fun _ _ h => (by cases h), fun _ h => (by cases h)⟩

theorem few_nats : ∀ (n : Nat) (l : List Nat), l.Nodup → (∀ x ∈ l, x < n) → l.length ≤ n
  | 0, l, _, hm => by
    cases l with
    | nil => simp
    | cons a r => exact absurd (hm a (by simp)) (by omega)
  | n + 1, l, hd, hm => by
    by_cases h : n ∈ l
    · have h1 := few_nats n (l.erase n) (hd.erase n) fun x hx => by
        have h2 := hm x (List.mem_of_mem_erase hx)
        have h3 : x ≠ n := fun e => by subst e; exact (hd.not_mem_erase) hx
        omega
      have := List.length_erase_of_mem h
      omega
    · have := few_nats n l hd fun x hx => by
        have h2 := hm x hx
        have h3 : x ≠ n := fun e => h (e ▸ hx)
        omega
      omega

theorem nodup_keys {w : World} {m n : Nat} {D : DataW Value} (h : w.ownsMap Tryz.prog 3 secE m n D) : (intKeys D).Nodup ∧ ∀ x, x ∈ intKeys D ↔ has D (.int .i64 x) = true := by
  obtain ⟨es, hD, hpw, _⟩ := h.entries law_int
  obtain ⟨es', hD', hko⟩ := h.keysOf
  obtain rfl : es = es' := by rw [hD] at hD'; simpa using hD'
  subst hD
  have hk : ∀ p ∈ es, ∃ x, p.1 = .int .i64 x := fun p hp => by obtain ⟨v, hv⟩ := hko p hp; obtain ⟨x, _, hx, _⟩ := Maps.keyOf_i64 Tryz.underlying3 hv; exact ⟨x, hx⟩
  refine ⟨?_, fun x => ?_⟩
  · show (es.map fun p => Go.intOf p.1).Nodup
    refine List.pairwise_map.2 (hpw.imp_of_mem fun {p q} hp' hq' hne e => hne ?_)
    obtain ⟨a, ha⟩ := hk p hp'
    obtain ⟨b, hb⟩ := hk q hq'
    rw [ha, hb] at e ⊢
    exact congrArg _ e
  · rw [has_eq, List.any_eq_true]
    show x ∈ es.map (fun p => Go.intOf p.1) ↔ _
    rw [List.mem_map]
    constructor
    · rintro ⟨p, hp', rfl⟩
      obtain ⟨a, ha⟩ := hk p hp'
      exact ⟨p, hp', by rw [ha]; simp [Lit.sameKey, Go.intOf]⟩
    · rintro ⟨p, hp', hs⟩
      obtain ⟨a, ha⟩ := hk p hp'
      rw [ha] at hs
      exact ⟨p, hp', by rw [ha]; simpa [Lit.sameKey, Go.intOf] using hs⟩

/-- A map whose keys are numbers below N has N entries at most. -/
theorem tight {w : World} {m n N : Nat} {D : DataW Value} (h : w.ownsMap Tryz.prog 3 secE m n D) (hN : ∀ x : Int, has D (.int .i64 x) = true → ∃ i : Nat, i < N ∧ x = i) : w.ownsMap Tryz.prog 3 secE m N D := by
  obtain ⟨k1, k2⟩ := nodup_keys h
  obtain ⟨es, clock, hb, F, hs, hD⟩ := h
  refine ⟨es, clock, hb, F, ?_, hD⟩
  have hlen : (intKeys D).length = es.size := by
    subst hD
    simp [intKeys, length_sorted]
  have h1 : ((intKeys D).map Int.toNat).Nodup := by
    refine List.pairwise_map.2 (List.Pairwise.imp_of_mem (fun {a b} ha hb hne e => hne ?_) k1)
    obtain ⟨i, _, rfl⟩ := hN a ((k2 a).1 ha)
    obtain ⟨j, _, rfl⟩ := hN b ((k2 b).1 hb)
    omega
  have h2 := few_nats N _ h1 fun x hx => by
    obtain ⟨a, ha, rfl⟩ := List.mem_map.1 hx
    obtain ⟨i, hi, rfl⟩ := hN a ((k2 a).1 ha)
    simpa using hi
  rw [List.length_map, hlen] at h2
  exact h2

section
variable {w w' : World} {m N : Nat} {f : Nat → Option (List UInt8)}
theorem PM.made (w : World) (N : Nat) : PM (w.alloc (.map #[] 0)) w.heap.size (fun _ => none) N := ⟨.map [], (World.ownsMap_made w _ _ _).mono (Nat.zero_le _), Told.none N⟩
theorem PM.lt (h : PM w m f N) : m < w.heap.size := h.choose_spec.1.lt
theorem PM.keep (h : PM w m f N) (hk : w'.heap[m]? = w.heap[m]?) : PM w' m f N := by
  obtain ⟨D, ⟨es, clock, hb, F, hs, hD⟩, r⟩ := h
  exact ⟨D, ⟨es, clock, hk.trans hb, F, hs, hD⟩, r⟩
/-- 'v, there := m[i]'. -/
theorem PM.look_ok (h : PM w m f N) (i : Nat) (hi : i < 1000000) : (Instr.lookup 57 (.map (some m)) (.int .i64 (i : Int)) true).run Tryz.prog w = .ok (.tuple #[secV ((f i).getD z256), .bool (f i).isSome]) w := by
  obtain ⟨D, h1, h2⟩ := h
  obtain ⟨v, ps, hrun, hv⟩ := h1.look_ok (t := 57) law_int Tryz.underlying57 (zero_sec w) (zd := .held (secV z256)) (zp := []) rfl (key_nat i hi)
  rw [hrun, h2.has i]
  have hv2 : v = secV ((f i).getD z256) := by
    simp only [secE, Option.some.injEq, Prod.mk.injEq] at hv
    cases hf : f i with
    | none =>
      have h3 := h2.has i
      rw [hf] at h3
      rw [atKey_of_not_has h3] at hv
      simpa using hv.1
    | some l =>
      rw [h2.at_ i l hf] at hv
      simpa using hv.1
  rw [hv2]
/-- 'm[i]'. -/
theorem PM.look (h : PM w m f N) (i : Nat) (hi : i < 1000000) : (Instr.lookup 57 (.map (some m)) (.int .i64 (i : Int)) false).run Tryz.prog w = .ok (secV ((f i).getD z256)) w := by
  obtain ⟨D, h1, h2⟩ := h
  obtain ⟨v, ps, hrun, hv⟩ := h1.lookup (t := 57) law_int Tryz.underlying57 (zero_sec w) (zd := .held (secV z256)) (zp := []) rfl (key_nat i hi)
  rw [hrun]
  have hv2 : v = secV ((f i).getD z256) := by
    simp only [secE, Option.some.injEq, Prod.mk.injEq] at hv
    cases hf : f i with
    | none =>
      have h3 := h2.has i
      rw [hf] at h3
      rw [atKey_of_not_has h3] at hv
      simpa using hv.1
    | some l =>
      rw [h2.at_ i l hf] at hv
      simpa using hv.1
  rw [hv2]
/-- 'm[i] = v'. -/
theorem PM.put (h : PM w m f N) (hN : N < 1000000) (i : Nat) (hi : i < N) (l : List UInt8) :
    ∃ w', (Instr.mapUpdate 57 (.map (some m)) (.int .i64 (i : Int)) (secV l)).run Tryz.prog w = .ok () w' ∧ PM w' m (upd f i l) N ∧ w.grownBy w' (some m) := by
  obtain ⟨D, h1, h2⟩ := h
  have hk := key_nat i (by omega)
  obtain ⟨w', hrun, r1, r2⟩ := h1.update (t := 57) law_int Tryz.underlying57 (by unfold maxLen; omega) (val := secV l) (d := .held (secV l)) (ps := []) hk rfl
  have told : Told (upd f i l) N (D.put (.int .i64 i) (.held (secV l))) := by
    refine ⟨fun j => ?_, fun j m hm z => ?_, fun x hx => ?_⟩
    · by_cases hj : j = i
      · subst hj
        rw [has_put_same h1.isMap (law_int.key hk), upd, if_pos rfl]; rfl
      · rw [has_put_other (nat_ne hj), upd, if_neg hj]; exact h2.has j
    · unfold upd at hm
      by_cases hj : j = i
      · subst hj
        rw [if_pos rfl] at hm
        obtain rfl := Option.some.inj hm
        exact atKey_put_same h1.isMap (law_int.key hk) _ _
      · rw [if_neg hj] at hm
        rw [atKey_put_other (nat_ne hj)]
        exact h2.at_ j m hm z
    · by_cases hj : Lit.int .i64 x = Lit.int .i64 i
      · simp only [Lit.int.injEq, true_and] at hj
        exact ⟨i, hi, hj⟩
      · rw [has_put_other hj] at hx
        exact h2.num x hx
  exact ⟨w', hrun, ⟨_, tight r1 told.num, told⟩, r2⟩
/-- 'clear(m)'. -/
theorem PM.clear (h : PM w m f N) (ty : TypeId) : ∃ w', (Builtin.clear_ #[57] ty #[.map (some m)]).run Tryz.prog w = .ok (.tuple #[]) w' ∧ PM w' m (fun _ => none) N ∧ w.grownBy w' (some m) := by
  obtain ⟨D, ⟨es, clock, hb, F, hs, hD⟩, h2⟩ := h
  refine ⟨ChangeMaps.setBlock w m (.map #[] clock), ?_, ⟨.map [], ⟨#[], clock, ChangeMaps.heap_setBlock_same hb _, ⟨by simp, MapKept.stamped_empty clock, by simp⟩, Nat.zero_le _, rfl⟩, Told.none N⟩, ⟨rfl, rfl, rfl, by simp [ChangeMaps.setBlock], fun i _ hi => ChangeMaps.heap_setBlock_other hb _ (fun e => hi (by rw [e]))⟩⟩
  simp [Builtin.clear_, run_underlying Tryz.underlying57, MapKept.run_getObj_map hb, MapKept.run_setObj_map (.map #[] clock) hb, Result.andThen, ChangeMaps.setBlock]
end
end Go.Proofs.YtgoifhpinoodgaaGreatDoor
end

section
namespace Go.Proofs.YtgoifhpinoodgaaGreatDoor
open Go.RowKit Go.Maps
set_option maxRecDepth 100000
set_option linter.unusedVariables false

/-- Block m, a map that holds f, is being gone through by r; what is left is to come. -/
def PR (w : World) (m r : Nat) (f : Nat → Option (List UInt8)) (N : Nat) (left : Nat → Bool) (cnt : Nat) : Prop :=
  ∃ (D : DataW Value) (lf : Lit → Bool), w.ranges Tryz.prog 3 secE m r N D lf cnt ∧ Told f N D ∧ ∀ i : Nat, left i = lf (.int .i64 i)

section
variable {w w' : World} {m r N cnt : Nat} {f : Nat → Option (List UInt8)} {left : Nat → Bool}
theorem PR.pm (h : PR w m r f N left cnt) : PM w m f N := by
  obtain ⟨D, lf, h1, h2, _⟩ := h
  exact ⟨D, h1.owns, h2⟩
theorem PR.left_eq (h : PR w m r f N left cnt) : w.rangeLeft m r = cnt := by
  obtain ⟨D, lf, h1, _, _⟩ := h
  exact h1.left_eq
theorem PR.ne (h : PR w m r f N left cnt) : r ≠ m := by
  obtain ⟨D, lf, h1, _, _⟩ := h
  exact h1.ne
theorem PR.lt (h : PR w m r f N left cnt) : r < w.heap.size := by
  obtain ⟨D, lf, h1, _, _⟩ := h
  exact h1.lt
theorem PR.kept (h : PR w m r f N left cnt) {row : Option Nat} (hg : w.grownBy w' row) (hm : some m ≠ row) (hr : some r ≠ row) : PR w' m r f N left cnt := by
  obtain ⟨D, lf, h1, h2, h3⟩ := h
  exact ⟨D, lf, h1.kept hg hm hr, h2, h3⟩
end

section
variable {ops : Array Oper} {rest : List Oper} {o : Oper} {a : Act} {w : World} {Q : Exit → Act → World → Prop}
/-- 'range m'. -/
theorem wpList_range_pm (hg : o.guard = none) (x : Operand) (hop : o.op = Op.range 57 x) (m N : Nat) (f : Nat → Option (List UInt8)) (hx : a.eval x = .map (some m)) (h : PM w m f N)
    (hK : ∀ w' cnt, PR w' m w.heap.size f N (fun i => (f i).isSome) cnt → w.grownBy w' none → wpList Tryz.prog ops Q rest (a.put o.dst (.pointer (some ⟨w.heap.size, 0, none⟩))) w') :
    wpList Tryz.prog ops Q (o :: rest) a w := by
  obtain ⟨D, h1, h2⟩ := h
  refine wpList_range_own w hg x 57 hop 3 75 law_int Tryz.underlying57 secE m N D hx h1 ?_
  intro w' r1 r2 _
  exact hK w' _ ⟨D, _, r1, h2, fun i => (h2.has i).symm⟩ r2
/-- The step. -/
theorem wpList_next_pm (hg : o.guard = none) (it : Operand) (hop : o.op = Op.next it false) (m r N cnt : Nat) (f : Nat → Option (List UInt8)) (left : Nat → Bool) (hit : a.eval it = .pointer (some ⟨r, 0, none⟩)) (h : PR w m r f N left cnt)
    (hDone : (∀ i, left i = false) → wpList Tryz.prog ops Q rest (a.put o.dst (.tuple #[.bool false])) w)
    (hMore : ∀ (i : Nat) (l : List UInt8) (w' : World) (cnt' : Nat), i < N → f i = some l → left i = true → PR w' m r f N (fun j => left j && !decide (j = i)) cnt' → cnt' < cnt → w.grownBy w' (some r) → w'.heap.size = w.heap.size →
      (Instr.entry (.pointer (some ⟨r, 0, none⟩))).run Tryz.prog w' = .ok (.tuple #[.int .i64 (i : Int), secV l]) w' → wpList Tryz.prog ops Q rest (a.put o.dst (.tuple #[.bool true, .int .i64 (i : Int), secV l])) w') :
    wpList Tryz.prog ops Q (o :: rest) a w := by
  obtain ⟨D, lf, h1, h2, h3⟩ := h
  refine wpList_next_ranges w hg it hop 3 law_int secE encZ id (fun key kl hk => by obtain ⟨x, hx, _⟩ := Maps.keyOf_i64 Tryz.underlying3 hk; exact ⟨x, hx⟩) (fun v _ _ => ⟨v, rfl⟩) m r N D lf cnt hit h1 ?_ ?_
  · intro _ hl
    exact hDone fun i => (h3 i).trans (hl _)
  · intro x c kl y w' cnt' hkey hlk hv hat hrg hlt hgr hsz hen
    obtain ⟨x', ex, rfl, _⟩ := Maps.keyOf_i64 Tryz.underlying3 hkey
    obtain rfl := encZ_inj ex
    obtain ⟨i, hi, rfl⟩ := h2.num x (has_true_of_atKey hat)
    have hs := h2.has i
    rw [has_true_of_atKey hat] at hs
    cases hf : f i with
    | none => rw [hf] at hs; cases hs
    | some l =>
      have hc : c = secV l := by
        have e1 := h2.at_ i l hf (.held (secV z256))
        rw [hat] at e1
        simp only [secE, id_eq, Option.some.injEq] at hv
        rw [← hv] at e1
        simpa using e1
      subst hc
      refine hMore i l w' cnt' hi hf ((h3 i).trans hlk) ⟨D, _, hrg, h2, fun j => ?_⟩ hlt hgr hsz hen
      show (left j && !decide (j = i)) = _
      rw [h3 j]
      congr 1
      by_cases hj : j = i
      · subst hj; simp [Lit.sameKey]
      · simp [Lit.sameKey, hj]; omega
end

section
variable {ops : Array Oper} {rest : List Oper} {o : Oper} {a : Act} {w : World} {Q : Exit → Act → World → Prop}
/-- 'm[i] = v'. -/
theorem wpList_put_pm (hg : o.guard = none) (x y v : Operand) (hop : o.op = Op.mapUpdate 57 x y v) (m N : Nat) (f : Nat → Option (List UInt8)) (hx : a.eval x = .map (some m)) (h : PM w m f N) (hN : N < 1000000) (i : Nat) (hi : i < N) (l : List UInt8)
    (hy : a.eval y = .int .i64 (i : Int)) (hv : a.eval v = secV l) (hK : ∀ w', PM w' m (upd f i l) N → w.grownBy w' (some m) → wpList Tryz.prog ops Q rest (a.put o.dst undef) w') : wpList Tryz.prog ops Q (o :: rest) a w := by
  refine wpList_plain hg fun K' hK' => ?_
  obtain ⟨w', hrun, r1, r2⟩ := h.put hN i hi l
  unfold Oper.wp
  simp [execOp, hop, hx, hy, hv, hrun, Result.andThen]
  exact hK' _ _ (hK w' r1 r2)
/-- 'v, there := m[i]'. -/
theorem wpList_look_pm (hg : o.guard = none) (x y : Operand) (hop : o.op = Op.lookup 57 x y true) (m N : Nat) (f : Nat → Option (List UInt8)) (hx : a.eval x = .map (some m)) (h : PM w m f N) (i : Nat) (hi : i < 1000000) (hy : a.eval y = .int .i64 (i : Int))
    (v : Value) (hv : .tuple #[secV ((f i).getD z256), .bool (f i).isSome] = v) (hK : wpList Tryz.prog ops Q rest (a.put o.dst v) w) : wpList Tryz.prog ops Q (o :: rest) a w := by
  refine wpList_plain hg fun K' hK' => ?_
  have hrun := h.look_ok i hi
  rw [hv] at hrun
  unfold Oper.wp
  simp [execOp, hop, hx, hy, hrun, Result.andThen]
  exact hK' _ _ hK
/-- 'clear(m)'. -/
theorem wpList_clear_pm (hg : o.guard = none) (x : Operand) (hop : o.op = Op.call { callee := Callee.builtin Builtin.clear, args := #[x], argTypes := #[57] }) (m N : Nat) (f : Nat → Option (List UInt8)) (hx : a.eval x = .map (some m)) (h : PM w m f N)
    (hK : ∀ w', PM w' m (fun _ => none) N → w.grownBy w' (some m) → wpList Tryz.prog ops Q rest (a.put o.dst (.tuple #[])) w') : wpList Tryz.prog ops Q (o :: rest) a w := by
  refine wpList_plain hg fun K' hK' => ?_
  obtain ⟨w', hrun, r1, r2⟩ := h.clear o.type
  unfold Oper.wp execOp
  simp only [hop, resolve, invoke, builtin, Sem.run_bind, Sem.run_pure, Result.andThen_ok, List.map_toArray, List.map_cons, List.map_nil, hx, hrun]
  exact hK' _ _ (hK w' r1 r2)
end

/-- The numbers below N at which f holds something, rising. -/
def held (f : Nat → Option (List UInt8)) (N : Nat) : List Nat := (List.range N).filter fun i => (f i).isSome
theorem mem_held {f : Nat → Option (List UInt8)} {N i : Nat} : i ∈ held f N ↔ i < N ∧ (f i).isSome = true := by simp [held]
theorem held_rising (f : Nat → Option (List UInt8)) (N : Nat) : (held f N).Pairwise (· < ·) := List.Pairwise.filter _ List.pairwise_lt_range

theorem sorted_keys {w : World} {m n N : Nat} {f : Nat → Option (List UInt8)} {D : DataW Value} (h : w.ownsMap Tryz.prog 3 secE m n D) (ht : Told f N D) (hf : ∀ i l, f i = some l → i < N) {ss : List Int} (hp : ss.Perm (intKeys D)) :
    ss.mergeSort (fun x y => decide (x ≤ y)) = (held f N).map fun i : Nat => (i : Int) := by
  obtain ⟨k1, k2⟩ := nodup_keys h
  have tr : ∀ a b c : Int, leI a b = true → leI b c = true → leI a c = true := fun a b c h1 h2 => by simp only [leI, decide_eq_true_eq] at *; exact Int.le_trans h1 h2
  have to : ∀ a b : Int, (leI a b || leI b a) = true := fun a b => by simp only [leI, Bool.or_eq_true, decide_eq_true_eq]; exact Int.le_total a b
  have hn : ((held f N).map fun i : Nat => (i : Int)).Nodup := by
    refine List.pairwise_map.2 (List.Pairwise.imp (fun {a b} hab e => ?_) (held_rising f N))
    omega
  have hperm : ss.Perm ((held f N).map fun i : Nat => (i : Int)) := hp.trans ((List.perm_ext_iff_of_nodup k1 hn).2 fun x => by
    rw [k2 x, List.mem_map]
    constructor
    · intro hx
      obtain ⟨i, hi, rfl⟩ := ht.num x hx
      exact ⟨i, mem_held.2 ⟨hi, (ht.has i).symm.trans hx⟩, rfl⟩
    · rintro ⟨i, hi, rfl⟩
      exact (ht.has i).trans (mem_held.1 hi).2)
  refine List.Perm.eq_of_pairwise (le := fun a b => leI a b = true) (fun a b _ _ h1 h2 => ?_) (List.pairwise_mergeSort tr to ss) ?_ ((List.mergeSort_perm ss leI).trans hperm)
  · simp only [leI, decide_eq_true_eq] at h1 h2
    exact Int.le_antisymm h1 h2
  · refine List.pairwise_map.2 (List.Pairwise.imp (fun {a b} hab => ?_) (held_rising f N))
    simp only [leI, decide_eq_true_eq]
    omega
end Go.Proofs.YtgoifhpinoodgaaGreatDoor
end
