/-
  Rows of conditions of a call's own: what they read as, and append onto them. No condition.
-/
import Derived.Test.YtommcdgognlfcaaRuV
import Derived.Test.YtommcdgognlfcaaStep
namespace Go.Proofs.Ytommcdgognlfcaa
open Go.RowKit
set_option maxRecDepth 100000
set_option linter.unusedVariables false

/-- Four cells. -/
abbrev QuX := Value × Value × Value × Value
def quadX (q : QuX) : List Value := [q.1, q.2.1, q.2.2.1, q.2.2.2]
def flatX (qs : List QuX) : List Value := qs.flatMap quadX
theorem flatX_cons (q : QuX) (qs : List QuX) : flatX (q :: qs) = quadX q ++ flatX qs := rfl
theorem flatX_append (a b : List QuX) : flatX (a ++ b) = flatX a ++ flatX b := List.flatMap_append
theorem flatX_length : ∀ (qs : List QuX), (flatX qs).length = qs.length * 4
  | [] => rfl
  | q :: qs => by rw [flatX_cons, List.length_append, flatX_length qs]; simp [quadX, Nat.succ_mul]; omega
theorem flatX_at : ∀ (qs : List QuX) (i : Nat) (q : QuX), qs[i]? = some q → (flatX qs)[i * 4]? = some q.1 ∧ (flatX qs)[i * 4 + 1]? = some q.2.1 ∧ (flatX qs)[i * 4 + 2]? = some q.2.2.1 ∧ (flatX qs)[i * 4 + 3]? = some q.2.2.2
  | [], i, q, h => by simp at h
  | p :: qs, 0, q, h => by
    simp at h
    subst h
    exact ⟨rfl, rfl, rfl, rfl⟩
  | p :: qs, i + 1, q, h => by
    obtain ⟨h0, h1, h2, h3⟩ := flatX_at qs i q (by simpa using h)
    rw [flatX_cons]
    have e : ∀ k, (quadX p ++ flatX qs)[(i + 1) * 4 + k]? = (flatX qs)[i * 4 + k]? := fun k => by
      rw [List.getElem?_append_right (by simp [quadX]; omega)]
      congr 1
      simp [quadX]; omega
    exact ⟨(e 0).trans h0, (e 1).trans h1, (e 2).trans h2, (e 3).trans h3⟩

/-- The quads read, in w, as the conditions ks. -/
def QX (w : World) (S : Nat → Prop) (f : Nat) (qs : List QuX) (ks : List (Ex f)) : Prop :=
  qs.length = ks.length ∧ ∀ (i : Nat) (q : QuX) (t : Ex f), qs[i]? = some q → ks[i]? = some t → EX w S f t q.1 q.2.1 q.2.2.1 q.2.2.2

section
variable {w w' : World} {S S' : Nat → Prop} {f : Nat} {qs ps : List QuX} {ks ls : List (Ex f)}
theorem QX.keepS (h : QX w S f qs ks) (hs : w.heap.size ≤ w'.heap.size) (hk : ∀ b, S b → b < w.heap.size → w'.heap[b]? = w.heap[b]?) (hS : ∀ b, S b → S' b) : QX w' S' f qs ks :=
  ⟨h.1, fun i q t hq ht => EX.keepS f t _ _ _ _ (h.2 i q t hq ht) hs hk hS⟩
theorem QX.below' (h : QX w S f qs ks) (hb : Below w.heap.size w w') : QX w' S f qs ks := h.keepS hb.size (fun b _ hlt => hb.block b hlt) fun _ h => h
theorem QX.mono (h : QX w S f qs ks) (hS : ∀ b, S b → S' b) : QX w S' f qs ks := h.keepS (Nat.le_refl _) (fun _ _ _ => rfl) hS
theorem QX.nil (w : World) (S : Nat → Prop) (f : Nat) : QX w S f [] [] := ⟨rfl, fun i q t h => by simp at h⟩
theorem QX.append (h : QX w S f qs ks) (g : QX w S f ps ls) : QX w S f (qs ++ ps) (ks ++ ls) := by
  refine ⟨by rw [List.length_append, List.length_append, h.1, g.1], fun i q t hq ht => ?_⟩
  rcases Nat.lt_or_ge i qs.length with hi | hi
  · rw [List.getElem?_append_left hi] at hq
    rw [List.getElem?_append_left (by rw [← h.1]; exact hi)] at ht
    exact h.2 i q t hq ht
  · rw [List.getElem?_append_right hi] at hq
    rw [List.getElem?_append_right (by rw [← h.1]; exact hi), ← h.1] at ht
    exact g.2 _ q t hq ht
theorem QX.one {c0 c1 c2 c3 : Value} {t : Ex f} (h : EX w S f t c0 c1 c2 c3) : QX w S f [(c0, c1, c2, c3)] [t] := by
  refine ⟨rfl, fun i q u hq hu => ?_⟩
  match i, hq, hu with
  | 0, hq, hu => simp at hq hu; subst hq hu; exact h
theorem EX.cells1 {t : Ex f} {c0 c1 c2 c3 : Value} (h : EX w S f t c0 c1 c2 c3) : ∀ u ∈ quadX (c0, c1, c2, c3), u.oneCell' = true := by
  obtain ⟨i0, i1, l2, X3, n3, z3, rfl, rfl, rfl, rfl⟩ := h.form
  intro u hu
  simp [quadX] at hu
  rcases hu with rfl | rfl | rfl | rfl <;> rfl
end

/-- A row of conditions of a call's own reads as a list of conditions. -/
theorem XS_of_own {w : World} {S : Nat → Prop} {f base : Nat} {v : Value} {qs : List QuX} {ks : List (Ex f)} (h : w.ownsRow base 24 4 v qs.length (flatX qs)) (hq : QX w S f qs ks)
    (hS : ∀ b, base ≤ b → b < w.heap.size → S b) : XS w S (EX w S f) v ks := by
  obtain ⟨_, h2⟩ := h
  rw [hq.1] at h2
  rcases h2 with ⟨rfl, h0⟩ | ⟨g, cap, cur, rfl, hb, hg, hnc, hcm, hcs, htk⟩
  · obtain rfl : ks = [] := List.eq_nil_of_length_eq_zero h0
    exact XS.nil _ _ _
  · have hlt : g < w.heap.size := (Array.getElem?_eq_some_iff.1 hg).1
    refine ⟨_, cap, rfl, hnc, hcm, fun h0 => ⟨g, 0, rfl, hS g hb hlt, hlt, fun i t hi => ?_⟩⟩
    have hil := (List.getElem?_eq_some_iff.1 hi).1
    have hqi : qs[i]? = some (qs[i]'(by rw [hq.1]; exact hil)) := List.getElem?_eq_getElem _
    obtain ⟨e0, e1, e2, e3⟩ := flatX_at qs i _ hqi
    have cell : ∀ k u, k < 4 → (flatX qs)[i * 4 + k]? = some u → w.cell? ⟨g, 0 + i * 4 + k, none⟩ = some u := fun k u hk hu => by
      rw [cell_of_row w g (0 + i * 4 + k) cur _ (0, 0) hg, Nat.zero_add]
      rw [← htk, List.getElem?_take, if_pos (by omega)] at hu
      simpa using hu
    exact ⟨_, _, _, _, cell 0 _ (by omega) e0, cell 1 _ (by omega) e1, cell 2 _ (by omega) e2, cell 3 _ (by omega) e3, hq.2 i _ t hqi hi⟩

theorem info_expr : (Try.prog.info? 24).map (fun i => (i.zero, i.size, i.bytes)) = some (some (.agg #[.int .i64 0, .int .i64 0, .string ⟨#[]⟩, .slice none 0 0]), 4, 56) := by kernel_rfl

theorem run_growX (w : World) (base : Nat) (v : Value) (qs : List QuX) (hown : w.ownsRow base 24 4 v qs.length (flatX qs)) (ad : Addr) (c : Nat) (p : QuX) (hx : ∀ j u, (quadX p)[j]? = some u → w.cell? (ad.add j) = some u) (h1 : ∀ u ∈ quadX p, u.oneCell' = true)
    (hb : qs.length ≤ 1000000000) (hbase : base ≤ w.heap.size) (ty : TypeId) :
    ∃ v' w', (Builtin.append_ #[22, 22] ty #[v, .slice (some ad) 1 c]).run Try.prog w = .ok v' w' ∧ w'.ownsRow base 24 4 v' (qs ++ [p]).length (flatX (qs ++ [p])) ∧ w.grownBy w' v.ownBlock ∧
      (v'.ownBlock = v.ownBlock ∨ v'.ownBlock = some w.heap.size) := by
  obtain ⟨i0, hi, hz0, hz1, hz2⟩ := info_parts info_expr
  have e : flatX [p] = quadX p := by simp [flatX]
  obtain ⟨v', w', a1, a2, a3, _, a5⟩ := run_append_own_at (P := Try.prog) (w := w) base 22 ty 24 i0 _ 4 56 Try.underlying22 hi hz0 hz1 hz2 rfl (by omega) v qs.length _ hown ad 1 c (flatX [p]) (flatX_length [p]) (by rw [e]; exact hx) (by rw [e]; exact h1)
    (by unfold maxLen; omega) (by omega) hbase
  exact ⟨v', w', a1, by rw [List.length_append, flatX_append]; exact a2, a3, a5⟩
theorem wpList_growX (w : World) {ops : Array Oper} {rest : List Oper} {o : Oper} {a : Act} {Q : Exit → Act → World → Prop} (hgd : o.guard = none) (s y : Operand)
    (ho : o.op = .call { callee := .builtin .append, args := #[s, y], argTypes := #[22, 22] })
    (base : Nat) (v : Value) (qs : List QuX) (hs : a.eval s = v) (hown : w.ownsRow base 24 4 v qs.length (flatX qs))
    (ad : Addr) (c : Nat) (p : QuX) (hye : a.eval y = .slice (some ad) 1 c) (hx : ∀ j u, (quadX p)[j]? = some u → w.cell? (ad.add j) = some u) (h1 : ∀ u ∈ quadX p, u.oneCell' = true)
    (hb : qs.length ≤ 1000000000) (hbase : base ≤ w.heap.size)
    (h : ∀ v' w', w'.ownsRow base 24 4 v' (qs ++ [p]).length (flatX (qs ++ [p])) → w.grownBy w' v.ownBlock → (v'.ownBlock = v.ownBlock ∨ v'.ownBlock = some w.heap.size) → wpList Try.prog ops Q rest (a.put o.dst v') w') :
    wpList Try.prog ops Q (o :: rest) a w := by
  refine wpList_plain hgd fun K hK => ?_
  obtain ⟨v', w', hrun, h2, h3, h4⟩ := run_growX w base v qs hown ad c p hx h1 hb hbase o.type
  unfold Oper.wp execOp
  simp only [ho, resolve, invoke, builtin, Sem.run_bind, Sem.run_pure, Result.andThen_ok, List.map_toArray, List.map_cons, List.map_nil, hs, hye, hrun]
  exact hK _ _ (h v' w' h2 h3 h4)
end Go.Proofs.Ytommcdgognlfcaa
