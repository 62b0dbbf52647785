/-
  TpP: A term's parts, by the program: plain mathematics, and what a row of them reads as. No condition but what it names.
-/
import Derived.Test.YthgaljgelngmaaaDoorDv18
import Derived.Test.YthgaljgelngmaaaDoorDv19
import Derived.Test.YthgaljgelngmaaaDoorDv20

section
namespace Go.Proofs.YthgaljgelngmaaaDoor
open Go.RowKit
set_option linter.unusedVariables false

/-- A term, of some depth. -/
abbrev UT := (f : Nat) × Tm f

/-- Two lists, related place by place. -/
def RL {α β : Type} (R : α → β → Prop) : List α → List β → Prop
  | [], [] => True
  | a :: l, b :: m => R a b ∧ RL R l m
  | _, _ => False

theorem RL.append {α β : Type} {R : α → β → Prop} : ∀ {a c : List α} {b d : List β}, RL R a b → RL R c d → RL R (a ++ c) (b ++ d)
  | [], c, [], d, _, h => h
  | x :: a, c, y :: b, d, h, k => ⟨h.1, RL.append h.2 k⟩
  | [], _, _ :: _, _, h, _ => h.elim
  | _ :: _, _, [], _, h, _ => h.elim
theorem RL.len {α β : Type} {R : α → β → Prop} : ∀ {a : List α} {b : List β}, RL R a b → a.length = b.length
  | [], [], _ => rfl
  | _ :: _, _ :: _, h => by rw [List.length_cons, List.length_cons, RL.len h.2]
  | [], _ :: _, h => h.elim
  | _ :: _, [], h => h.elim
theorem RL.at {α β : Type} {R : α → β → Prop} : ∀ {a : List α} {b : List β} {i : Nat} {x : α} {y : β}, RL R a b → a[i]? = some x → b[i]? = some y → R x y
  | [], _, i, x, y, _, h, _ => by simp at h
  | _ :: _, [], _, _, _, h, _, _ => h.elim
  | u :: a, v :: b, 0, x, y, h, hx, hy => by simp at hx hy; subst hx hy; exact h.1
  | u :: a, v :: b, i + 1, x, y, h, hx, hy => RL.at h.2 (by simpa using hx) (by simpa using hy)
theorem RL.mapR {α β γ : Type} {R : α → β → Prop} {R' : α → γ → Prop} (g : β → γ) (h : ∀ x y, R x y → R' x (g y)) : ∀ {a : List α} {b : List β}, RL R a b → RL R' a (b.map g)
  | [], [], _ => trivial
  | _ :: _, _ :: _, k => ⟨h _ _ k.1, RL.mapR g h k.2⟩
  | [], _ :: _, k => k.elim
  | _ :: _, [], k => k.elim

theorem sim_refl : ∀ (f : Nat) (t : Tm f), sim f f t t
  | 0, t => nomatch t
  | f + 1, (t : Nd (Tm f)) => ⟨rfl, rfl, rfl, rfl, fun i x y hx hy => by rw [hx] at hy; injection hy with hy; subst hy; exact sim_refl f x⟩

/-- A term and its parts, in order. -/
def partsU : (f : Nat) → Tm f → List UT
  | 0, t => nomatch t
  | f + 1, (t : Nd (Tm f)) => ⟨f + 1, (t : Nd (Tm f))⟩ :: t.kids.flatMap (partsU f)

theorem partsU_T : ∀ (f : Nat) (t : Tm f), RL (fun (u : UT) (x : Tm f) => sim u.1 f u.2 x) (partsU f t) (partsT f t)
  | 0, t => nomatch t
  | f + 1, (t : Nd (Tm f)) => by
    have h : ∀ ks : List (Tm f), RL (fun (u : UT) (x : Tm (f + 1)) => sim u.1 (f + 1) u.2 x) (ks.flatMap (partsU f)) (ks.flatMap fun u => (partsT f u).map (lift f)) := by
      intro ks
      induction ks with
      | nil => exact trivial
      | cons k ks ih =>
        rw [List.flatMap_cons, List.flatMap_cons]
        exact RL.append (RL.mapR (lift f) (fun x y hxy => sim_lift x.1 f x.2 y hxy) (partsU_T f k)) ih
    exact ⟨sim_refl (f + 1) t, h t.kids⟩

theorem nxtU_parts : ∀ (f : Nat) (t : Tm f) (s : List UT), nxtT (fun f (t : Nd (Tm f)) s => s ++ [(⟨f + 1, t⟩ : UT)]) f t s = s ++ partsU f t
  | 0, t, _ => nomatch t
  | f + 1, (t : Nd (Tm f)), s => by
    have h : ∀ (ks : List (Tm f)) (s : List UT), ks.foldl (fun s u => nxtT (fun f (t : Nd (Tm f)) s => s ++ [(⟨f + 1, t⟩ : UT)]) f u s) s = s ++ ks.flatMap (partsU f) := by
      intro ks
      induction ks with
      | nil => intro s; simp
      | cons k ks ih =>
        intro s
        rw [List.foldl_cons, ih, nxtU_parts f k s, List.flatMap_cons, List.append_assoc]
    show t.kids.foldl (fun s u => nxtT (fun f (t : Nd (Tm f)) s => s ++ [(⟨f + 1, t⟩ : UT)]) f u s) (s ++ [(⟨f + 1, t⟩ : UT)]) = s ++ ((⟨f + 1, t⟩ : UT) :: t.kids.flatMap (partsU f))
    rw [h, List.append_assoc]; rfl

theorem partsU_few : ∀ (f : Nat) (t : Tm f), few f t → ∀ u ∈ partsU f t, few u.1 u.2
  | 0, t, _, _, _ => nomatch t
  | f + 1, (t : Nd (Tm f)), h, u, hu => by
    rcases List.mem_cons.1 hu with rfl | hu
    · exact h
    · obtain ⟨k, hk, hu⟩ := List.mem_flatMap.1 hu
      exact partsU_few f k (h.2.2 k hk) u hu

theorem flatM_le {α β : Type} (g : α → List β) (X : Nat) : ∀ (ks : List α), (∀ u, u ∈ ks → (g u).length ≤ X) → (ks.flatMap g).length ≤ ks.length * X
  | [], _ => by simp
  | a :: l, h => by
    have h1 := h a (by simp)
    have h2 := flatM_le g X l fun u hu => h u (by simp [hu])
    rw [List.flatMap_cons, List.length_append, List.length_cons, Nat.succ_mul]
    omega

theorem parts_le : ∀ (f : Nat) (t : Tm f) (n : Nat), mayT f t n = true → (partsU f t).length + 1 ≤ 2 ^ n
  | 0, t, _, _ => nomatch t
  | f + 1, (t : Nd (Tm f)), n, h => by
    have h' : (decide (1 ≤ (n : Int)) && ownOk t && (t.kids.all fun u => mayT f u ((n : Int) - 1)) && (decide (t.kind ≠ 5) || decide (kindAt f t.kids 1 = 2))) = true := h
    simp only [Bool.and_eq_true, decide_eq_true_eq] at h'
    obtain ⟨⟨⟨h1, h2⟩, h3⟩, _⟩ := h'
    obtain ⟨m, rfl⟩ : ∃ m, n = m + 1 := ⟨n - 1, by omega⟩
    have hx : ((m + 1 : Nat) : Int) - 1 = (m : Int) := by omega
    rw [hx] at h3
    have hk : ∀ u, u ∈ t.kids → (partsU f u).length ≤ 2 ^ m - 1 := fun u hu => by
      have := parts_le f u m (List.all_eq_true.1 h3 u hu)
      omega
    have hf := flatM_le (partsU f) _ t.kids hk
    simp only [ownOk, Bool.and_eq_true, decide_eq_true_eq] at h2
    have hl : t.kids.length ≤ 2 := by have := kidsN_le t.kind; omega
    have hm : t.kids.length * (2 ^ m - 1) ≤ 2 * (2 ^ m - 1) := Nat.mul_le_mul_right _ hl
    have hp := Nat.one_le_two_pow (n := m)
    show ((⟨f + 1, t⟩ : UT) :: t.kids.flatMap (partsU f)).length + 1 ≤ _
    rw [List.length_cons, Nat.pow_succ]
    omega

theorem parts_may {f : Nat} {t : Tm f} (h : mayT f t 8 = true) : (partsU f t).length ≤ 255 := by
  have := parts_le f t 8 h
  omega

/-- The quads read, in w, as the terms us. -/
def QU (w : World) (S : Nat → Prop) (qs : List Quad) (us : List UT) : Prop :=
  qs.length = us.length ∧ ∀ (i : Nat) (q : Quad) (t : UT), qs[i]? = some q → us[i]? = some t → TM w S t.1 t.2 q.1 q.2.1 q.2.2.1 q.2.2.2

section
variable {w w' : World} {S S' : Nat → Prop} {qs ps : List Quad} {us vs : List UT}
theorem QU.keepS (h : QU w S qs us) (hs : w.heap.size ≤ w'.heap.size) (hk : ∀ b, S b → b < w.heap.size → w'.heap[b]? = w.heap[b]?) (hS : ∀ b, S b → S' b) : QU w' S' qs us :=
  ⟨h.1, fun i q t hq ht => TM.keepS t.1 t.2 _ _ _ _ (h.2 i q t hq ht) hs hk hS⟩
theorem QU.nil (w : World) (S : Nat → Prop) : QU w S [] [] := ⟨rfl, fun i q t h => by simp at h⟩
theorem QU.append (h : QU w S qs us) (g : QU w S ps vs) : QU w S (qs ++ ps) (us ++ vs) := by
  refine ⟨by rw [List.length_append, List.length_append, h.1, g.1], fun i q t hq ht => ?_⟩
  rcases Nat.lt_or_ge i qs.length with hi | hi
  · rw [List.getElem?_append_left hi] at hq
    rw [List.getElem?_append_left (by rw [← h.1]; exact hi)] at ht
    exact h.2 i q t hq ht
  · rw [List.getElem?_append_right hi] at hq
    rw [List.getElem?_append_right (by rw [← h.1]; exact hi), ← h.1] at ht
    exact g.2 _ q t hq ht
theorem QU.one {c0 c1 c2 c3 : Value} {t : UT} (h : TM w S t.1 t.2 c0 c1 c2 c3) : QU w S [(c0, c1, c2, c3)] [t] := by
  refine ⟨rfl, fun i q u hq hu => ?_⟩
  match i, hq, hu with
  | 0, hq, hu => simp at hq hu; subst hq hu; exact h
end

/-- A row of terms of a call's own reads as a list of terms. -/
theorem KU_of_own {w : World} {S : Nat → Prop} {base : Nat} {v : Value} {qs : List Quad} {us : List UT} (h : w.ownsRow base 35 4 v qs.length (flatQ qs)) (hq : QU w S qs us)
    (hS : ∀ b, base ≤ b → b < w.heap.size → S b) : KS w S (fun (u : UT) => TM w S u.1 u.2) v us := by
  obtain ⟨_, h2⟩ := h
  rw [hq.1] at h2
  rcases h2 with ⟨rfl, h0⟩ | ⟨g, cap, cur, rfl, hb, hg, hnc, hcm, hcs, htk⟩
  · obtain rfl : us = [] := List.eq_nil_of_length_eq_zero h0
    exact ⟨none, 0, rfl, by simp, by simp [maxLen], fun _ => rfl, fun h => absurd h (by simp)⟩
  · have hlt : g < w.heap.size := (Array.getElem?_eq_some_iff.1 hg).1
    refine ⟨_, cap, rfl, hnc, hcm, (fun h => by cases h), fun h0 => ⟨g, 0, rfl, hS g hb hlt, hlt, fun i t hi => ?_⟩⟩
    have hil := (List.getElem?_eq_some_iff.1 hi).1
    have hqi : qs[i]? = some (qs[i]'(by rw [hq.1]; exact hil)) := List.getElem?_eq_getElem _
    obtain ⟨e0, e1, e2, e3⟩ := flatQ_at qs i _ hqi
    have cell : ∀ k u, k < 4 → (flatQ qs)[i * 4 + k]? = some u → w.cell? ⟨g, 0 + i * 4 + k, none⟩ = some u := fun k u hk hu => by
      rw [cell_of_row w g (0 + i * 4 + k) cur _ (0, 0) hg, Nat.zero_add]
      rw [← htk, List.getElem?_take, if_pos (by omega)] at hu
      simpa using hu
    exact ⟨_, _, _, _, cell 0 _ (by omega) e0, cell 1 _ (by omega) e1, cell 2 _ (by omega) e2, cell 3 _ (by omega) e3, hq.2 i _ t hqi hi⟩

/-- The variable at gb holds the terms us, in a row of the call's own; neither is among the blocks of which P holds. -/
def IQ (gb B : Nat) (P : Nat → Prop) (w : World) (us : List UT) : Prop :=
  ¬ P gb ∧ gb < B ∧ B ≤ w.heap.size ∧ ∃ v qs, KB w gb 22 #[v] ∧ w.ownsRow B 35 4 v qs.length (flatQ qs) ∧ (∀ k, v.ownBlock = some k → ¬ P k) ∧ QU w (SO B w v) qs us

theorem IQ.alloc {gb B : Nat} {P : Nat → Prop} {w : World} {s : List UT} (h : IQ gb B P w s) (o : Obj) : IQ gb B (fun b => P b ∨ b = w.heap.size) (w.alloc o) s := by
  obtain ⟨h1, h2, h3, v, qs, h4, h5, h6, h7⟩ := h
  refine ⟨?_, h2, by simp; omega, v, qs, h4.alloc o, own_past ((Below.refl _ _).alloc (Nat.le_refl _) o) h5, fun k hk => ?_, h7.keepS (by simp) (fun b _ hb => Below.heap_alloc w o b hb) fun b hb => ⟨hb.1, hb.2.1, by have := hb.2.2; simp; omega⟩⟩
  · rintro (h | h)
    · exact h1 h
    · omega
  · rintro (h | h)
    · exact h6 k hk h
    · have := own_lt h5 k hk; omega
theorem IQ.mono {gb B : Nat} {P Q : Nat → Prop} {w : World} {s : List UT} (h : IQ gb B P w s) (hq : ∀ b, Q b → P b) : IQ gb B Q w s := by
  obtain ⟨h1, h2, h3, v, qs, h4, h5, h6, h7⟩ := h
  exact ⟨fun h => h1 (hq _ h), h2, h3, v, qs, h4, h5, fun k hk h => h6 k hk (hq _ h), h7⟩

/-- The last term of a row, written over. -/
theorem set_last (A : List Value) (z0 z1 z2 z3 q0 q1 q2 q3 : Value) : ((((A ++ [z0, z1, z2, z3]).set A.length q0).set (A.length + 1) q1).set (A.length + 2) q2).set (A.length + 3) q3 = A ++ [q0, q1, q2, q3] := by
  rw [List.set_append_right _ _ (Nat.le_refl _), Nat.sub_self, List.set_append_right _ _ (by omega), List.set_append_right _ _ (by omega), List.set_append_right _ _ (by omega)]
  rw [show A.length + 1 - A.length = 1 by omega, show A.length + 2 - A.length = 2 by omega, show A.length + 3 - A.length = 3 by omega]
  rfl

theorem own_last {w : World} {B g c : Nat} {qs : List Quad} {z q : Quad} (h : w.ownsRow B 35 4 (.slice (some ⟨g, 0, none⟩) (qs ++ [z]).length c) (qs ++ [z]).length (flatQ (qs ++ [z]))) :
    ((((w.setCell ⟨g, qs.length * 4, none⟩ q.1).setCell ⟨g, qs.length * 4 + 1, none⟩ q.2.1).setCell ⟨g, qs.length * 4 + 2, none⟩ q.2.2.1).setCell ⟨g, qs.length * 4 + 3, none⟩ q.2.2.2).ownsRow B 35 4 (.slice (some ⟨g, 0, none⟩) (qs ++ [z]).length c) (qs ++ [z]).length (flatQ (qs ++ [q])) := by
  obtain ⟨h1, h2⟩ := h
  rcases h2 with ⟨e, _⟩ | ⟨g', cap, cur, e, hb, hg, hnc, hcm, hcs, htk⟩
  · injection e with e; cases e
  · injection e with e1 e2 e3
    injection e1 with e1
    injection e1 with e1
    subst e1 e3
    have kb : KB w g 35 cur := hg
    have k4 := (((kb.put (qs.length * 4) q.1).put (qs.length * 4 + 1) q.2.1).put (qs.length * 4 + 2) q.2.2.1).put (qs.length * 4 + 3) q.2.2.2
    refine ⟨?_, .inr ⟨g, c, _, rfl, hb, k4, hnc, hcm, by simpa using hcs, ?_⟩⟩
    · rw [flatQ_length]; simp
    · have e4 : (flatQ qs).length = qs.length * 4 := flatQ_length qs
      simp only [Array.toList_setIfInBounds]
      rw [List.take_set, List.take_set, List.take_set, List.take_set, htk, flatQ_append, flatQ_append]
      have := set_last (flatQ qs) z.1 z.2.1 z.2.2.1 z.2.2.2 q.1 q.2.1 q.2.2.1 q.2.2.2
      rw [e4] at this
      exact this
end Go.Proofs.YthgaljgelngmaaaDoor
end
