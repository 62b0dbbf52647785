/-
  Milestones in memory: what a slice of them reads as, and the cells that a row of them holds. No type of the program is named here. No condition.
-/
import Derived.Test.YtommcdgognlfcaaDuM
import Derived.Test.YtommcdgognlfcaaKp
import Derived.Test.YtommcdgognlfcaaTxt
namespace Go.Proofs.Ytommcdgognlfcaa
open Go.RowKit
set_option maxRecDepth 100000
set_option linter.unusedVariables false

/-- The slice value v reads, in w, as milestones; where it is not empty they lie in a block of which S holds. -/
def ML (w : World) (S : Nat → Prop) (v : Value) (l : List Ml) : Prop :=
  ∃ A c, v = .slice A l.length c ∧ l.length ≤ c ∧ c ≤ maxLen ∧ (A = none → c = 0) ∧
    (0 < l.length → ∃ b o, A = some ⟨b, o, none⟩ ∧ S b ∧ b < w.heap.size ∧ ∀ j m, l[j]? = some m →
      w.cell? ⟨b, o + j * 2, none⟩ = some (strV m.1) ∧ w.cell? ⟨b, o + j * 2 + 1, none⟩ = some (.int .i64 m.2) ∧ I64 m.2 ∧ m.1.length ≤ maxLen)

section
variable {w w' : World} {S S' : Nat → Prop} {v : Value} {l : List Ml}
theorem ML.nil (w : World) (S : Nat → Prop) : ML w S (.slice none 0 0) [] := ⟨none, 0, rfl, by simp, by simp [maxLen], fun _ => rfl, fun h => absurd h (by simp)⟩
theorem ML.keepL (h : ML w S v l) (hs : w.heap.size ≤ w'.heap.size) (hk : ∀ b, S b → b < w.heap.size → w'.heap[b]? = w.heap[b]?) (hS : ∀ b, S b → b < w.heap.size → S' b) : ML w' S' v l := by
  obtain ⟨A, c, e, hl, hc, hn, hx⟩ := h
  refine ⟨A, c, e, hl, hc, hn, fun h0 => ?_⟩
  obtain ⟨b, o, ea, sb, hb, hx⟩ := hx h0
  refine ⟨b, o, ea, hS b sb hb, by omega, fun j m hj => ?_⟩
  obtain ⟨h1, h2, h3, h4⟩ := hx j m hj
  exact ⟨(World.cell?_of_block (w := w) (hk b sb hb)).trans h1, (World.cell?_of_block (w := w) (hk b sb hb)).trans h2, h3, h4⟩
theorem ML.keepS (h : ML w S v l) (hs : w.heap.size ≤ w'.heap.size) (hk : ∀ b, S b → b < w.heap.size → w'.heap[b]? = w.heap[b]?) (hS : ∀ b, S b → S' b) : ML w' S' v l := h.keepL hs hk fun b sb _ => hS b sb
theorem ML.mono (h : ML w S v l) (hS : ∀ b, S b → S' b) : ML w S' v l := h.keepS (Nat.le_refl _) (fun _ _ _ => rfl) hS
theorem ML.below' (h : ML w S v l) (hg : Below w.heap.size w w') : ML w' S v l := h.keepS hg.size (fun b _ hb => hg.block b hb) fun _ h => h
theorem ML.keepP {P : Nat → Prop} (h : ML w S v l) (k : KeepP P w w') (hp : ∀ b, S b → b < w.heap.size → P b) : ML w' S v l := h.keepS k.size (fun b sb hb => k.block b (hp b sb hb)) fun _ h => h
theorem ML.alloc (h : ML w S v l) (o : Obj) : ML (w.alloc o) S v l := h.keepS (by simp) (fun b _ hb => Below.heap_alloc w o b hb) fun _ h => h
theorem ML.form (h : ML w S v l) : ∃ A c, v = .slice A l.length c ∧ l.length ≤ c ∧ c ≤ maxLen := by
  obtain ⟨A, c, e, hl, hc, _⟩ := h
  exact ⟨A, c, e, hl, hc⟩
theorem ML.form0 (h : ML w S v l) : ∃ A c, v = .slice A l.length c ∧ l.length ≤ c ∧ c ≤ maxLen ∧ (A = none → c = 0) := by
  obtain ⟨A, c, e, hl, hc, hn, _⟩ := h
  exact ⟨A, c, e, hl, hc, hn⟩
/-- The milestones of a slice that is not empty. -/
theorem ML.at_ {A : Option Addr} {n c : Nat} (h : ML w S (.slice A n c) l) (hp : 0 < l.length) :
    ∃ b o, A = some ⟨b, o, none⟩ ∧ S b ∧ b < w.heap.size ∧ ∀ j m, l[j]? = some m →
      w.cell? ⟨b, o + j * 2, none⟩ = some (strV m.1) ∧ w.cell? ⟨b, o + j * 2 + 1, none⟩ = some (.int .i64 m.2) ∧ I64 m.2 ∧ m.1.length ≤ maxLen := by
  obtain ⟨A', c', e, hl, hc, _, hx⟩ := h
  injection e with e1 e2 e3
  subst e1
  exact hx hp
/-- A milestone of a slice, where memory stands now. -/
theorem kid_m {wr : World} {A : Option Addr} {c n : Nat} (h : ML w S (.slice A n c) l) (hn : l.length = n) (hs : w.heap.size ≤ wr.heap.size) (hk : ∀ b, S b → b < w.heap.size → wr.heap[b]? = w.heap[b]?) (j : Nat) (hj : j < l.length) :
    ∃ b o, A = some ⟨b, o, none⟩ ∧ b < w.heap.size ∧ wr.cell? ⟨b, o + j * 2, none⟩ = some (strV l[j].1) ∧ wr.cell? ⟨b, o + j * 2 + 1, none⟩ = some (.int .i64 l[j].2) ∧ I64 l[j].2 ∧ l[j].1.length ≤ maxLen := by
  obtain ⟨b, o, ea, sb, hb, hx⟩ := (h.keepS hs hk fun _ h => h).at_ (by omega)
  obtain ⟨h1, h2, h3, h4⟩ := hx j _ (List.getElem?_eq_getElem hj)
  obtain ⟨b', o', ea', sb', hb', _⟩ := h.at_ (by omega)
  rw [ea] at ea'
  injection ea' with ea'
  injection ea' with e1 e2 e3
  subst e1 e2
  exact ⟨b, o, ea, hb', h1, h2, h3, h4⟩
end

/-- The cells of a row of milestones. -/
def twoM (m : Ml) : List Value := [strV m.1, .int .i64 m.2]
def flatM (l : List Ml) : List Value := l.flatMap twoM
theorem flatM_nil : flatM [] = [] := rfl
theorem flatM_cons (m : Ml) (l : List Ml) : flatM (m :: l) = twoM m ++ flatM l := rfl
theorem flatM_append (a b : List Ml) : flatM (a ++ b) = flatM a ++ flatM b := List.flatMap_append
theorem flatM_length : ∀ (l : List Ml), (flatM l).length = l.length * 2
  | [] => rfl
  | m :: l => by rw [flatM_cons, List.length_append, flatM_length l]; simp [twoM, Nat.succ_mul]; omega
theorem flatM_at : ∀ (l : List Ml) (i : Nat) (m : Ml), l[i]? = some m → (flatM l)[i * 2]? = some (strV m.1) ∧ (flatM l)[i * 2 + 1]? = some (.int .i64 m.2)
  | [], i, m, h => by simp at h
  | p :: l, 0, m, h => by
    simp at h
    subst h
    exact ⟨rfl, rfl⟩
  | p :: l, i + 1, m, h => by
    obtain ⟨h0, h1⟩ := flatM_at l i m (by simpa using h)
    rw [flatM_cons]
    have e : ∀ k, (twoM p ++ flatM l)[(i + 1) * 2 + k]? = (flatM l)[i * 2 + k]? := fun k => by
      rw [List.getElem?_append_right (by simp [twoM]; omega)]
      congr 1
      simp [twoM]; omega
    exact ⟨(e 0).trans h0, (e 1).trans h1⟩
theorem flatM_cells1 (l : List Ml) : ∀ u ∈ flatM l, u.oneCell' = true := by
  intro u hu
  obtain ⟨m, _, hm⟩ := List.mem_flatMap.1 hu
  simp [twoM] at hm
  rcases hm with rfl | rfl <;> rfl
/-- What a slice that reads as milestones has in its cells. -/
theorem ML.flat {w : World} {S : Nat → Prop} {b o n c : Nat} {l : List Ml} (h : ML w S (.slice (some ⟨b, o, none⟩) n c) l) : ∀ j u, (flatM l)[j]? = some u → w.cell? ((⟨b, o, none⟩ : Addr).add j) = some u := by
  intro j u hj
  have hjl := (List.getElem?_eq_some_iff.1 hj).1
  rw [flatM_length] at hjl
  obtain ⟨b', o', ea, _, _, hx⟩ := h.at_ (by omega)
  injection ea with ea
  injection ea with e1 e2 e3
  subst e1 e2
  have hil : j / 2 < l.length := by omega
  obtain ⟨h0, h1⟩ := flatM_at l (j / 2) _ (List.getElem?_eq_getElem hil)
  obtain ⟨k0, k1, _, _⟩ := hx (j / 2) _ (List.getElem?_eq_getElem hil)
  rw [Addr.add_lit]
  rcases Nat.mod_two_eq_zero_or_one j with hm | hm
  · have e : j = j / 2 * 2 := by omega
    rw [e] at hj ⊢
    rw [h0] at hj
    injection hj with hj
    rw [← hj]
    exact k0
  · have e : j = j / 2 * 2 + 1 := by omega
    rw [e] at hj ⊢
    rw [h1] at hj
    injection hj with hj
    rw [← hj, ← Nat.add_assoc]
    exact k1
/-- Two milestones' names, compared. -/
theorem sameM_iff (a b : List Ml) : decide (a = b) = true ↔ a.length = b.length ∧ ∀ j (h : j < a.length) (h' : j < b.length), a[j] = b[j] := by
  rw [decide_eq_true_eq]
  constructor
  · rintro rfl; exact ⟨rfl, fun _ _ _ => rfl⟩
  · intro ⟨h, hx⟩; exact List.ext_getElem h fun i h1 h2 => hx i h1 h2
end Go.Proofs.Ytommcdgognlfcaa
