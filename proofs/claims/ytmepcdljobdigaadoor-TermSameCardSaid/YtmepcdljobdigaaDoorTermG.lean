/-
  Rows of terms of a call's own: what they read as, and append onto them. No condition.
-/
import Derived.Test.YtmepcdljobdigaaDoorTermV
import Derived.Test.YtmepcdljobdigaaDoorStep
namespace Go.Proofs.YtmepcdljobdigaaDoor
open Go.RowKit
set_option linter.unusedVariables false

/-- Four cells. -/
abbrev Quad := Value × Value × Value × Value
def quad (q : Quad) : List Value := [q.1, q.2.1, q.2.2.1, q.2.2.2]
def flatQ (qs : List Quad) : List Value := qs.flatMap quad
theorem flatQ_nil : flatQ [] = [] := rfl
theorem flatQ_cons (q : Quad) (qs : List Quad) : flatQ (q :: qs) = quad q ++ flatQ qs := rfl
theorem flatQ_append (a b : List Quad) : flatQ (a ++ b) = flatQ a ++ flatQ b := List.flatMap_append
theorem flatQ_length : ∀ (qs : List Quad), (flatQ qs).length = qs.length * 4
  | [] => rfl
  | q :: qs => by rw [flatQ_cons, List.length_append, flatQ_length qs]; simp [quad, Nat.succ_mul]; omega
theorem flatQ_at : ∀ (qs : List Quad) (i : Nat) (q : Quad), qs[i]? = some q → (flatQ qs)[i * 4]? = some q.1 ∧ (flatQ qs)[i * 4 + 1]? = some q.2.1 ∧ (flatQ qs)[i * 4 + 2]? = some q.2.2.1 ∧ (flatQ qs)[i * 4 + 3]? = some q.2.2.2
  | [], i, q, h => by simp at h
  | p :: qs, 0, q, h => by
    simp at h
    subst h
    exact ⟨rfl, rfl, rfl, rfl⟩
  | p :: qs, i + 1, q, h => by
    obtain ⟨h0, h1, h2, h3⟩ := flatQ_at qs i q (by simpa using h)
    rw [flatQ_cons]
    have e : ∀ k, (quad p ++ flatQ qs)[(i + 1) * 4 + k]? = (flatQ qs)[i * 4 + k]? := fun k => by
      rw [List.getElem?_append_right (by simp [quad]; omega)]
      congr 1
      simp [quad]; omega
    exact ⟨(e 0).trans h0, (e 1).trans h1, (e 2).trans h2, (e 3).trans h3⟩

/-- The quads read, in w, as the terms ks. -/
def QT (w : World) (S : Nat → Prop) (f : Nat) (qs : List Quad) (ks : List (Tm f)) : Prop :=
  qs.length = ks.length ∧ ∀ (i : Nat) (q : Quad) (t : Tm f), qs[i]? = some q → ks[i]? = some t → TM w S f t q.1 q.2.1 q.2.2.1 q.2.2.2

section
variable {w w' : World} {S S' : Nat → Prop} {f : Nat} {qs ps : List Quad} {ks ls : List (Tm f)}
theorem QT.keepS (h : QT w S f qs ks) (hs : w.heap.size ≤ w'.heap.size) (hk : ∀ b, S b → b < w.heap.size → w'.heap[b]? = w.heap[b]?) (hS : ∀ b, S b → S' b) : QT w' S' f qs ks :=
  ⟨h.1, fun i q t hq ht => TM.keepS f t _ _ _ _ (h.2 i q t hq ht) hs hk hS⟩
theorem QT.below' (h : QT w S f qs ks) (hb : Below w.heap.size w w') : QT w' S f qs ks := h.keepS hb.size (fun b _ hlt => hb.block b hlt) fun _ h => h
theorem QT.mono (h : QT w S f qs ks) (hS : ∀ b, S b → S' b) : QT w S' f qs ks := h.keepS (Nat.le_refl _) (fun _ _ _ => rfl) hS
theorem QT.nil (w : World) (S : Nat → Prop) (f : Nat) : QT w S f [] [] := ⟨rfl, fun i q t h => by simp at h⟩
theorem QT.append (h : QT w S f qs ks) (g : QT w S f ps ls) : QT w S f (qs ++ ps) (ks ++ ls) := by
  refine ⟨by rw [List.length_append, List.length_append, h.1, g.1], fun i q t hq ht => ?_⟩
  rcases Nat.lt_or_ge i qs.length with hi | hi
  · rw [List.getElem?_append_left hi] at hq
    rw [List.getElem?_append_left (by rw [← h.1]; exact hi)] at ht
    exact h.2 i q t hq ht
  · rw [List.getElem?_append_right hi] at hq
    rw [List.getElem?_append_right (by rw [← h.1]; exact hi), ← h.1] at ht
    exact g.2 _ q t hq ht
theorem QT.one {c0 c1 c2 c3 : Value} {t : Tm f} (h : TM w S f t c0 c1 c2 c3) : QT w S f [(c0, c1, c2, c3)] [t] := by
  refine ⟨rfl, fun i q u hq hu => ?_⟩
  match i, hq, hu with
  | 0, hq, hu => simp at hq hu; subst hq hu; exact h
theorem TM.cells1 : ∀ {f : Nat} {t : Tm f} {c0 c1 c2 c3 : Value}, TM w S f t c0 c1 c2 c3 → ∀ u ∈ quad (c0, c1, c2, c3), u.oneCell' = true
  | 0, t, _, _, _, _, _ => nomatch t
  | f + 1, (t : Nd (Tm f)), c0, c1, c2, c3, h => by
    obtain ⟨rfl, _, rfl, _, hb, hk⟩ := h
    obtain ⟨A2, cap2, rfl, _⟩ := hb.form
    obtain ⟨A3, cap3, rfl, _⟩ := hk
    intro u hu
    simp [quad] at hu
    rcases hu with rfl | rfl | rfl | rfl <;> rfl
theorem QT.cells1 (h : QT w S f qs ks) : ∀ u ∈ flatQ qs, u.oneCell' = true := by
  intro u hu
  obtain ⟨q, hq, hu⟩ := List.mem_flatMap.1 hu
  obtain ⟨i, hi, e⟩ := List.mem_iff_getElem.1 hq
  have h1 : qs[i]? = some q := by rw [List.getElem?_eq_getElem hi, e]
  have h2 : ks[i]? = some (ks[i]'(by rw [← h.1]; exact hi)) := List.getElem?_eq_getElem _
  exact TM.cells1 (h.2 i q _ h1 h2) u hu
end

/-- A row of terms of a call's own reads as a list of terms. -/
theorem KS_of_own {w : World} {S : Nat → Prop} {f base : Nat} {v : Value} {qs : List Quad} {ks : List (Tm f)} (h : w.ownsRow base 26 4 v qs.length (flatQ qs)) (hq : QT w S f qs ks)
    (hS : ∀ b, base ≤ b → b < w.heap.size → S b) : KS w S (TM w S f) v ks := by
  obtain ⟨_, h2⟩ := h
  rw [hq.1] at h2
  rcases h2 with ⟨rfl, h0⟩ | ⟨g, cap, cur, rfl, hb, hg, hnc, hcm, hcs, htk⟩
  · obtain rfl : ks = [] := List.eq_nil_of_length_eq_zero h0
    exact ⟨none, 0, rfl, by simp, by simp [maxLen], fun _ => rfl, fun h => absurd h (by simp)⟩
  · have hlt : g < w.heap.size := (Array.getElem?_eq_some_iff.1 hg).1
    refine ⟨_, cap, rfl, hnc, hcm, (fun h => by cases h), fun h0 => ⟨g, 0, rfl, hS g hb hlt, hlt, fun i t hi => ?_⟩⟩
    have hil := (List.getElem?_eq_some_iff.1 hi).1
    have hqi : qs[i]? = some (qs[i]'(by rw [hq.1]; exact hil)) := List.getElem?_eq_getElem _
    obtain ⟨e0, e1, e2, e3⟩ := flatQ_at qs i _ hqi
    have cell : ∀ k u, k < 4 → (flatQ qs)[i * 4 + k]? = some u → w.cell? ⟨g, 0 + i * 4 + k, none⟩ = some u := fun k u hk hu => by
      rw [cell_of_row w g (0 + i * 4 + k) cur _ (0, 0) hg, Nat.zero_add]
      rw [← htk, List.getElem?_take, if_pos (by omega)] at hu
      simpa using hu
    exact ⟨_, _, _, _, cell 0 _ (by omega) e0, cell 1 _ (by omega) e1, cell 2 _ (by omega) e2, cell 3 _ (by omega) e3, hq.2 i _ t hqi hi⟩

/-- A new row of one term. -/
theorem own_one (w : World) (base : Nat) (hb : base ≤ w.heap.size) (q : Quad) : (w.alloc (.cells #[q.1, q.2.1, q.2.2.1, q.2.2.2] 26)).ownsRow base 26 4 (.slice (some ⟨w.heap.size, 0, none⟩) 1 1) [q].length (flatQ [q]) :=
  ⟨rfl, .inr ⟨w.heap.size, 1, #[q.1, q.2.1, q.2.2.1, q.2.2.2], rfl, hb, heap_alloc_new w _, Nat.le_refl _, by simp [maxLen], rfl, rfl⟩⟩

theorem info_term : (Tryd.prog.info? 26).map (fun i => (i.zero, i.size, i.bytes)) = some (some (.agg #[.int .i64 0, .int .u64 0, .slice none 0 0, .slice none 0 0]), 4, 64) := by kernel_rfl

/-- The cells of a slice that lies at an address, as quads. -/
def At (w : World) (ad : Addr) (qs : List Quad) : Prop := ∀ j u, (flatQ qs)[j]? = some u → w.cell? (ad.add j) = some u

theorem run_growT (w : World) (base : Nat) (v : Value) (qs : List Quad) (hown : w.ownsRow base 26 4 v qs.length (flatQ qs)) (ad : Addr) (c : Nat) (ps : List Quad) (hx : At w ad ps) (h1 : ∀ u ∈ flatQ ps, u.oneCell' = true)
    (hb : qs.length + ps.length ≤ 1000000000) (hbase : base ≤ w.heap.size) (ty : TypeId) :
    ∃ v' w', (Builtin.append_ #[24, 24] ty #[v, .slice (some ad) ps.length c]).run Tryd.prog w = .ok v' w' ∧ w'.ownsRow base 26 4 v' (qs ++ ps).length (flatQ (qs ++ ps)) ∧ w.grownBy w' v.ownBlock ∧
      (v'.ownBlock = v.ownBlock ∨ v'.ownBlock = some w.heap.size) := by
  obtain ⟨i0, hi, hz0, hz1, hz2⟩ := info_parts info_term
  obtain ⟨v', w', a1, a2, a3, _, a5⟩ := run_append_own_at (P := Tryd.prog) (w := w) base 24 ty 26 i0 _ 4 64 Tryd.underlying24 hi hz0 hz1 hz2 rfl (by omega) v qs.length _ hown ad ps.length c (flatQ ps) (flatQ_length ps) hx h1
    (by unfold maxLen; omega) (by omega) hbase
  exact ⟨v', w', a1, by rw [List.length_append, flatQ_append]; exact a2, a3, a5⟩
end Go.Proofs.YtmepcdljobdigaaDoor
