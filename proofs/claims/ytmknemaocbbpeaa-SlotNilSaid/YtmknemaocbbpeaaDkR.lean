/-
  A map of sectors gone through, and its keys in order; over the loaded program. No condition but what each theorem names.
-/
import Derived.Test.YtmknemaocbbpeaaDkM
namespace Go.Proofs.Ytmknemaocbbpeaa
open Go.RowKit Go.Maps
set_option maxRecDepth 100000
set_option linter.unusedVariables false

/-- Block m, a map that holds f, is being gone through by r; what is left is to come. -/
def PR (w : World) (m r : Nat) (f : Nat → Option (List UInt8)) (N : Nat) (left : Nat → Bool) (cnt : Nat) : Prop :=
  ∃ (D : DataW Value) (lf : Lit → Bool), w.ranges Try.prog 3 secE m r N D lf cnt ∧ Told f N D ∧ ∀ i : Nat, left i = lf (.int .i64 i)

section
variable {w w' : World} {m r N cnt : Nat} {f : Nat → Option (List UInt8)} {left : Nat → Bool}
theorem PR.pm (h : PR w m r f N left cnt) : PM w m f N := by
  obtain ⟨D, lf, h1, h2, _⟩ := h
  exact ⟨D, h1.owns, h2⟩
theorem PR.left_eq (h : PR w m r f N left cnt) : w.rangeLeft m r = cnt := by
  obtain ⟨D, lf, h1, _, _⟩ := h
  exact h1.left_eq
theorem PR.ne (h : PR w m r f N left cnt) : r ≠ m := by
  obtain ⟨D, lf, h1, _, _⟩ := h
  exact h1.ne
theorem PR.lt (h : PR w m r f N left cnt) : r < w.heap.size := by
  obtain ⟨D, lf, h1, _, _⟩ := h
  exact h1.lt
theorem PR.kept (h : PR w m r f N left cnt) {row : Option Nat} (hg : w.grownBy w' row) (hm : some m ≠ row) (hr : some r ≠ row) : PR w' m r f N left cnt := by
  obtain ⟨D, lf, h1, h2, h3⟩ := h
  exact ⟨D, lf, h1.kept hg hm hr, h2, h3⟩
end

section
variable {ops : Array Oper} {rest : List Oper} {o : Oper} {a : Act} {w : World} {Q : Exit → Act → World → Prop}
/-- 'range m'. -/
theorem wpList_range_pm (hg : o.guard = none) (x : Operand) (hop : o.op = Op.range 53 x) (m N : Nat) (f : Nat → Option (List UInt8)) (hx : a.eval x = .map (some m)) (h : PM w m f N)
    (hK : ∀ w' cnt, PR w' m w.heap.size f N (fun i => (f i).isSome) cnt → w.grownBy w' none → wpList Try.prog ops Q rest (a.put o.dst (.pointer (some ⟨w.heap.size, 0, none⟩))) w') :
    wpList Try.prog ops Q (o :: rest) a w := by
  obtain ⟨D, h1, h2⟩ := h
  refine wpList_range_own w hg x 53 hop 3 68 law_int Try.underlying53 secE m N D hx h1 ?_
  intro w' r1 r2 _
  exact hK w' _ ⟨D, _, r1, h2, fun i => (h2.has i).symm⟩ r2
/-- The step. -/
theorem wpList_next_pm (hg : o.guard = none) (it : Operand) (hop : o.op = Op.next it false) (m r N cnt : Nat) (f : Nat → Option (List UInt8)) (left : Nat → Bool) (hit : a.eval it = .pointer (some ⟨r, 0, none⟩)) (h : PR w m r f N left cnt)
    (hDone : (∀ i, left i = false) → wpList Try.prog ops Q rest (a.put o.dst (.tuple #[.bool false])) w)
    (hMore : ∀ (i : Nat) (l : List UInt8) (w' : World) (cnt' : Nat), i < N → f i = some l → left i = true → PR w' m r f N (fun j => left j && !decide (j = i)) cnt' → cnt' < cnt → w.grownBy w' (some r) → w'.heap.size = w.heap.size →
      (Instr.entry (.pointer (some ⟨r, 0, none⟩))).run Try.prog w' = .ok (.tuple #[.int .i64 (i : Int), secV l]) w' → wpList Try.prog ops Q rest (a.put o.dst (.tuple #[.bool true, .int .i64 (i : Int), secV l])) w') :
    wpList Try.prog ops Q (o :: rest) a w := by
  obtain ⟨D, lf, h1, h2, h3⟩ := h
  refine wpList_next_ranges w hg it hop 3 law_int secE encZ id (fun key kl hk => by obtain ⟨x, hx, _⟩ := Maps.keyOf_i64 Try.underlying3 hk; exact ⟨x, hx⟩) (fun v _ _ => ⟨v, rfl⟩) m r N D lf cnt hit h1 ?_ ?_
  · intro _ hl
    exact hDone fun i => (h3 i).trans (hl _)
  · intro x c kl y w' cnt' hkey hlk hv hat hrg hlt hgr hsz hen
    obtain ⟨x', ex, rfl, _⟩ := Maps.keyOf_i64 Try.underlying3 hkey
    obtain rfl := encZ_inj ex
    obtain ⟨i, hi, rfl⟩ := h2.num x (has_true_of_atKey hat)
    have hs := h2.has i
    rw [has_true_of_atKey hat] at hs
    cases hf : f i with
    | none => rw [hf] at hs; cases hs
    | some l =>
      have hc : c = secV l := by
        have e1 := h2.at_ i l hf (.held (secV z256))
        rw [hat] at e1
        simp only [secE, id_eq, Option.some.injEq] at hv
        rw [← hv] at e1
        simpa using e1
      subst hc
      refine hMore i l w' cnt' hi hf ((h3 i).trans hlk) ⟨D, _, hrg, h2, fun j => ?_⟩ hlt hgr hsz hen
      show (left j && !decide (j = i)) = _
      rw [h3 j]
      congr 1
      by_cases hj : j = i
      · subst hj; simp [Lit.sameKey]
      · simp [Lit.sameKey, hj]; omega
end

section
variable {ops : Array Oper} {rest : List Oper} {o : Oper} {a : Act} {w : World} {Q : Exit → Act → World → Prop}
/-- 'm[i] = v'. -/
theorem wpList_put_pm (hg : o.guard = none) (x y v : Operand) (hop : o.op = Op.mapUpdate 53 x y v) (m N : Nat) (f : Nat → Option (List UInt8)) (hx : a.eval x = .map (some m)) (h : PM w m f N) (hN : N < 1000000) (i : Nat) (hi : i < N) (l : List UInt8)
    (hy : a.eval y = .int .i64 (i : Int)) (hv : a.eval v = secV l) (hK : ∀ w', PM w' m (upd f i l) N → w.grownBy w' (some m) → wpList Try.prog ops Q rest (a.put o.dst undef) w') : wpList Try.prog ops Q (o :: rest) a w := by
  refine wpList_plain hg fun K' hK' => ?_
  obtain ⟨w', hrun, r1, r2⟩ := h.put hN i hi l
  unfold Oper.wp
  simp [execOp, hop, hx, hy, hv, hrun, Result.andThen]
  exact hK' _ _ (hK w' r1 r2)
/-- 'v, there := m[i]'. -/
theorem wpList_look_pm (hg : o.guard = none) (x y : Operand) (hop : o.op = Op.lookup 53 x y true) (m N : Nat) (f : Nat → Option (List UInt8)) (hx : a.eval x = .map (some m)) (h : PM w m f N) (i : Nat) (hi : i < 1000000) (hy : a.eval y = .int .i64 (i : Int))
    (v : Value) (hv : .tuple #[secV ((f i).getD z256), .bool (f i).isSome] = v) (hK : wpList Try.prog ops Q rest (a.put o.dst v) w) : wpList Try.prog ops Q (o :: rest) a w := by
  refine wpList_plain hg fun K' hK' => ?_
  have hrun := h.look_ok i hi
  rw [hv] at hrun
  unfold Oper.wp
  simp [execOp, hop, hx, hy, hrun, Result.andThen]
  exact hK' _ _ hK
/-- 'clear(m)'. -/
theorem wpList_clear_pm (hg : o.guard = none) (x : Operand) (hop : o.op = Op.call { callee := Callee.builtin Builtin.clear, args := #[x], argTypes := #[53] }) (m N : Nat) (f : Nat → Option (List UInt8)) (hx : a.eval x = .map (some m)) (h : PM w m f N)
    (hK : ∀ w', PM w' m (fun _ => none) N → w.grownBy w' (some m) → wpList Try.prog ops Q rest (a.put o.dst (.tuple #[])) w') : wpList Try.prog ops Q (o :: rest) a w := by
  refine wpList_plain hg fun K' hK' => ?_
  obtain ⟨w', hrun, r1, r2⟩ := h.clear o.type
  unfold Oper.wp execOp
  simp only [hop, resolve, invoke, builtin, Sem.run_bind, Sem.run_pure, Result.andThen_ok, List.map_toArray, List.map_cons, List.map_nil, hx, hrun]
  exact hK' _ _ (hK w' r1 r2)
end

/-- The numbers below N at which f holds something, rising. -/
def held (f : Nat → Option (List UInt8)) (N : Nat) : List Nat := (List.range N).filter fun i => (f i).isSome
theorem mem_held {f : Nat → Option (List UInt8)} {N i : Nat} : i ∈ held f N ↔ i < N ∧ (f i).isSome = true := by simp [held]
theorem held_rising (f : Nat → Option (List UInt8)) (N : Nat) : (held f N).Pairwise (· < ·) := List.Pairwise.filter _ List.pairwise_lt_range

theorem sorted_keys {w : World} {m n N : Nat} {f : Nat → Option (List UInt8)} {D : DataW Value} (h : w.ownsMap Try.prog 3 secE m n D) (ht : Told f N D) (hf : ∀ i l, f i = some l → i < N) {ss : List Int} (hp : ss.Perm (intKeys D)) :
    ss.mergeSort (fun x y => decide (x ≤ y)) = (held f N).map fun i : Nat => (i : Int) := by
  obtain ⟨k1, k2⟩ := nodup_keys h
  have tr : ∀ a b c : Int, leI a b = true → leI b c = true → leI a c = true := fun a b c h1 h2 => by simp only [leI, decide_eq_true_eq] at *; exact Int.le_trans h1 h2
  have to : ∀ a b : Int, (leI a b || leI b a) = true := fun a b => by simp only [leI, Bool.or_eq_true, decide_eq_true_eq]; exact Int.le_total a b
  have hn : ((held f N).map fun i : Nat => (i : Int)).Nodup := by
    refine List.pairwise_map.2 (List.Pairwise.imp (fun {a b} hab e => ?_) (held_rising f N))
    omega
  have hperm : ss.Perm ((held f N).map fun i : Nat => (i : Int)) := hp.trans ((List.perm_ext_iff_of_nodup k1 hn).2 fun x => by
    rw [k2 x, List.mem_map]
    constructor
    · intro hx
      obtain ⟨i, hi, rfl⟩ := ht.num x hx
      exact ⟨i, mem_held.2 ⟨hi, (ht.has i).symm.trans hx⟩, rfl⟩
    · rintro ⟨i, hi, rfl⟩
      exact (ht.has i).trans (mem_held.1 hi).2)
  refine List.Perm.eq_of_pairwise (le := fun a b => leI a b = true) (fun a b _ _ h1 h2 => ?_) (List.pairwise_mergeSort tr to ss) ?_ ((List.mergeSort_perm ss leI).trans hperm)
  · simp only [leI, decide_eq_true_eq] at h1 h2
    exact Int.le_antisymm h1 h2
  · refine List.pairwise_map.2 (List.Pairwise.imp (fun {a b} hab => ?_) (held_rising f N))
    simp only [leI, decide_eq_true_eq]
    omega
end Go.Proofs.Ytmknemaocbbpeaa
