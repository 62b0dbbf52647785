/-
  ScV: Scopes in memory: what five cells read as; kept over what turns elsewhere; rows of five cells of a call's own. No type of the program is named here. No condition.
  ScC: The document's named, many, small, Small and Same (layer 20), over the loaded program: each one's contract. No condition but the sizes that each contract names.
  Txs: Texts (strings) byte by byte: a byte of one; the first bytes of one; a part; two joined. Over the loaded program. No condition but sizes.
-/
import Derived.Test.YtjecjlhofnnnpaaGreatDoorWy01
import Derived.Test.YtjecjlhofnnnpaaGreatDoorWy03
import Derived.Lib.Hide
import Derived.BigQuiet
import Derived.Lib.Strings
import Derived.Laws.Strings2
import Derived.Laws.Strings3
import Derived.Laws.Concat
set_option linter.unusedVariables false
set_option maxRecDepth 100000
namespace Go.Proofs.YtjecjlhofnnnpaaGreatDoor
section
open Go.RowKit
def ZS {α : Type} (w : World) (S : Nat → Prop) (E : α → Value → Value → Value → Value → Value → Prop) (v : Value) (ks : List α) : Prop :=
  ∃ A c, v = .slice A ks.length c ∧ ks.length ≤ c ∧ c ≤ maxLen ∧ (A = none → c = 0) ∧
    (0 < ks.length → ∃ b o, A = some ⟨b, o, none⟩ ∧ S b ∧ b < w.heap.size ∧
      ∀ i t, ks[i]? = some t → ∃ c0 c1 c2 c3 c4, w.cell? ⟨b, o + i * 5, none⟩ = some c0 ∧ w.cell? ⟨b, o + i * 5 + 1, none⟩ = some c1 ∧ w.cell? ⟨b, o + i * 5 + 2, none⟩ = some c2 ∧ w.cell? ⟨b, o + i * 5 + 3, none⟩ = some c3 ∧ w.cell? ⟨b, o + i * 5 + 4, none⟩ = some c4 ∧ E t c0 c1 c2 c3 c4)
def ZX (w : World) (S : Nat → Prop) : (f : Nat) → Sc f → Value → Value → Value → Value → Value → Prop
  | 0, x, _, _, _, _, _ => nomatch x
  | f + 1, (x : Ns (Sc f)), c0, c1, c2, c3, c4 => c0 = .int .i64 x.op ∧ I64 x.op ∧ c1 = strV x.name ∧ x.name.length ≤ maxLen ∧ c2 = .int .i64 x.from_ ∧ I64 x.from_ ∧ c3 = .int .i64 x.to_ ∧ I64 x.to_ ∧ ZS w S (ZX w S f) c4 x.kids
section
variable {w w' : World} {S S' : Nat → Prop}
theorem ZS.mapL {α β : Type} {E : α → Value → Value → Value → Value → Value → Prop} {E' : β → Value → Value → Value → Value → Value → Prop} {v : Value} {ks : List α} (g : α → β) (h : ZS w S E v ks)
    (hs : w.heap.size ≤ w'.heap.size) (hk : ∀ b, S b → b < w.heap.size → w'.heap[b]? = w.heap[b]?) (hS : ∀ b, S b → b < w.heap.size → S' b) (he : ∀ t c0 c1 c2 c3 c4, E t c0 c1 c2 c3 c4 → E' (g t) c0 c1 c2 c3 c4) : ZS w' S' E' v (ks.map g) := by
  obtain ⟨A, c, e, hl, hc, hn, hx⟩ := h
  refine ⟨A, c, by rw [e, List.length_map], by rw [List.length_map]; exact hl, hc, hn, fun h0 => ?_⟩
  rw [List.length_map] at h0
  obtain ⟨b, o, ea, sb, hb, hx⟩ := hx h0
  refine ⟨b, o, ea, hS b sb hb, by omega, fun i t hi => ?_⟩
  rw [List.getElem?_map] at hi
  cases hq : ks[i]? with
  | none => rw [hq] at hi; cases hi
  | some u =>
    rw [hq] at hi
    simp only [Option.map_some, Option.some.injEq] at hi
    subst hi
    obtain ⟨c0, c1, c2, c3, c4, k0, k1, k2, k3, k4, ke⟩ := hx i u hq
    have hc := fun (x : Nat) => World.cell?_of_block (w := w) (w' := w') (a := ⟨b, x, none⟩) (hk b sb hb)
    exact ⟨c0, c1, c2, c3, c4, (hc _).trans k0, (hc _).trans k1, (hc _).trans k2, (hc _).trans k3, (hc _).trans k4, he _ _ _ _ _ _ ke⟩
theorem ZX.keepL : ∀ (f : Nat) (t : Sc f) (c0 c1 c2 c3 c4 : Value), ZX w S f t c0 c1 c2 c3 c4 → w.heap.size ≤ w'.heap.size → (∀ b, S b → b < w.heap.size → w'.heap[b]? = w.heap[b]?) → (∀ b, S b → b < w.heap.size → S' b) → ZX w' S' f t c0 c1 c2 c3 c4
  | 0, t, _, _, _, _, _, _, _, _, _ => nomatch t
  | f + 1, (t : Ns (Sc f)), c0, c1, c2, c3, c4, h, hs, hk, hS => by
    obtain ⟨h0, h1, h2, h3, h4, h5, h6, h7, h8⟩ := h
    have := ZS.mapL (w' := w') (S' := S') (E' := ZX w' S' f) id h8 hs hk hS fun u d0 d1 d2 d3 d4 hu => ZX.keepL f u d0 d1 d2 d3 d4 hu hs hk hS
    rw [List.map_id] at this
    exact ⟨h0, h1, h2, h3, h4, h5, h6, h7, this⟩
theorem ZX.lifted : ∀ (f : Nat) (t : Sc f) (c0 c1 c2 c3 c4 : Value), ZX w S f t c0 c1 c2 c3 c4 → ZX w S (f + 1) (liftS f t) c0 c1 c2 c3 c4
  | 0, t, _, _, _, _, _, _ => nomatch t
  | f + 1, (t : Ns (Sc f)), c0, c1, c2, c3, c4, h => by
    obtain ⟨h0, h1, h2, h3, h4, h5, h6, h7, h8⟩ := h
    exact ⟨h0, h1, h2, h3, h4, h5, h6, h7, ZS.mapL (w' := w) (S' := S) (E' := ZX w S (f + 1)) (liftS f) h8 (Nat.le_refl _) (fun _ _ _ => rfl) (fun _ h _ => h) fun u d0 d1 d2 d3 d4 hu => ZX.lifted f u d0 d1 d2 d3 d4 hu⟩
section
variable {f : Nat} {t : Sc f} {c0 c1 c2 c3 c4 : Value}
theorem ZX.keepS (h : ZX w S f t c0 c1 c2 c3 c4) (hs : w.heap.size ≤ w'.heap.size) (hk : ∀ b, S b → b < w.heap.size → w'.heap[b]? = w.heap[b]?) (hS : ∀ b, S b → S' b) : ZX w' S' f t c0 c1 c2 c3 c4 := ZX.keepL f t c0 c1 c2 c3 c4 h hs hk fun b sb _ => hS b sb
theorem ZX.mono (h : ZX w S f t c0 c1 c2 c3 c4) (hS : ∀ b, S b → S' b) : ZX w S' f t c0 c1 c2 c3 c4 := h.keepS (Nat.le_refl _) (fun _ _ _ => rfl) hS
theorem ZX.below' (h : ZX w S f t c0 c1 c2 c3 c4) (hb : Below w.heap.size w w') : ZX w' S f t c0 c1 c2 c3 c4 := h.keepS hb.size (fun b _ hlt => hb.block b hlt) fun _ h => h
theorem ZX.keepP {P : Nat → Prop} (h : ZX w S f t c0 c1 c2 c3 c4) (k : KeepP P w w') (hp : ∀ b, S b → b < w.heap.size → P b) : ZX w' S f t c0 c1 c2 c3 c4 := h.keepS k.size (fun b sb hb => k.block b (hp b sb hb)) fun _ h => h
theorem ZX.alloc (h : ZX w S f t c0 c1 c2 c3 c4) (o : Obj) : ZX (w.alloc o) S f t c0 c1 c2 c3 c4 := h.keepS (by simp) (fun b _ hb => Below.heap_alloc w o b hb) fun _ h => h
end
theorem ZX.form : ∀ {f : Nat} {t : Sc f} {e0 e1 e2 e3 e4 : Value}, ZX w S f t e0 e1 e2 e3 e4 → ∃ (i0 : Int) (l1 : List UInt8) (i2 i3 : Int) (X4 : Option Addr) (n4 z4 : Nat), e0 = .int .i64 i0 ∧ e1 = strV l1 ∧ e2 = .int .i64 i2 ∧ e3 = .int .i64 i3 ∧ e4 = .slice X4 n4 z4
  | 0, t, _, _, _, _, _, _ => nomatch t
  | f + 1, (t : Ns (Sc f)), e0, e1, e2, e3, e4, h => by
    obtain ⟨rfl, _, rfl, _, rfl, _, rfl, _, hk⟩ := h
    obtain ⟨A3, c3, rfl, _⟩ := hk
    exact ⟨_, _, _, _, A3, _, c3, rfl, rfl, rfl, rfl, rfl⟩
theorem ZS.nil {α : Type} (w : World) (S : Nat → Prop) (E : α → Value → Value → Value → Value → Value → Prop) : ZS w S E (.slice none 0 0) [] := ⟨none, 0, rfl, by simp, by simp [maxLen], fun _ => rfl, fun h => absurd h (by simp)⟩
theorem ZS.form {α : Type} {E : α → Value → Value → Value → Value → Value → Prop} {v : Value} {ks : List α} (h : ZS w S E v ks) : ∃ A c, v = .slice A ks.length c ∧ ks.length ≤ c ∧ c ≤ maxLen := by
  obtain ⟨A, c, e, hl, hc, _⟩ := h
  exact ⟨A, c, e, hl, hc⟩
theorem ZS.past {f : Nat} {v : Value} {ks : List (Sc f)} (h : ZS w S (ZX w S f) v ks) (hb : Below w.heap.size w w') : ZS w' S (ZX w' S f) v ks := by
  have := ZS.mapL (E' := ZX w' S f) (w' := w') (S' := S) id h hb.size (fun b _ hl => hb.block b hl) (fun _ h _ => h) (fun t c0 c1 c2 c3 c4 h => h.below' hb)
  rwa [List.map_id] at this
theorem kid_z {wr : World} {f : Nat} {A : Option Addr} {c n : Nat} {ks : List (Sc f)} (h : ZS w S (ZX w S f) (.slice A n c) ks) (hn : ks.length = n) (hs : w.heap.size ≤ wr.heap.size) (hk : ∀ b, S b → b < w.heap.size → wr.heap[b]? = w.heap[b]?) (j : Nat) (hj : j < ks.length) :
    ∃ b o e0 e1 e2 e3 e4, A = some ⟨b, o, none⟩ ∧ b < w.heap.size ∧ wr.cell? ⟨b, o + j * 5, none⟩ = some e0 ∧ wr.cell? ⟨b, o + j * 5 + 1, none⟩ = some e1 ∧ wr.cell? ⟨b, o + j * 5 + 2, none⟩ = some e2 ∧ wr.cell? ⟨b, o + j * 5 + 3, none⟩ = some e3 ∧ wr.cell? ⟨b, o + j * 5 + 4, none⟩ = some e4 ∧
      ZX wr S f ks[j] e0 e1 e2 e3 e4 := by
  subst hn
  obtain ⟨A', c', e, hl, hc, _, hx⟩ := h
  injection e with e1 e2 e3
  subst e1 e3
  obtain ⟨b, o, rfl, sb, hlt, hx⟩ := hx (by omega)
  obtain ⟨e0, e1, e2, e3, e4, k0, k1, k2, k3, k4, ht⟩ := hx j ks[j] (List.getElem?_eq_getElem hj)
  have hc := fun (x : Nat) => World.cell?_of_block (w := w) (w' := wr) (a := ⟨b, x, none⟩) (hk b sb hlt)
  exact ⟨b, o, e0, e1, e2, e3, e4, rfl, hlt, (hc _).trans k0, (hc _).trans k1, (hc _).trans k2, (hc _).trans k3, (hc _).trans k4, ht.keepS hs hk fun _ h => h⟩
end
def ZV (w : World) (S : Nat → Prop) (f : Nat) (v : Value) (x : Sc f) : Prop := ∃ c0 c1 c2 c3 c4, v = .agg #[c0, c1, c2, c3, c4] ∧ ZX w S f x c0 c1 c2 c3 c4
section
variable {w w' : World} {S S' : Nat → Prop} {f : Nat} {v : Value} {t : Sc f}
theorem ZV.keepL (h : ZV w S f v t) (hs : w.heap.size ≤ w'.heap.size) (hk : ∀ b, S b → b < w.heap.size → w'.heap[b]? = w.heap[b]?) (hS : ∀ b, S b → b < w.heap.size → S' b) : ZV w' S' f v t := by
  obtain ⟨c0, c1, c2, c3, c4, e, h⟩ := h
  exact ⟨c0, c1, c2, c3, c4, e, ZX.keepL f t _ _ _ _ _ h hs hk hS⟩
theorem ZV.mono (h : ZV w S f v t) (hS : ∀ b, S b → S' b) : ZV w S' f v t := h.keepL (Nat.le_refl _) (fun _ _ _ => rfl) fun b sb _ => hS b sb
theorem ZV.below' (h : ZV w S f v t) (hb : Below w.heap.size w w') : ZV w' S f v t := h.keepL hb.size (fun b _ hlt => hb.block b hlt) fun _ h _ => h
theorem ZV.alloc (h : ZV w S f v t) (o : Obj) : ZV (w.alloc o) S f v t := h.keepL (by simp) (fun b _ hb => Below.heap_alloc w o b hb) fun _ h _ => h
theorem ZV.lifted (h : ZV w S f v t) : ZV w S (f + 1) v (liftS f t) := by
  obtain ⟨c0, c1, c2, c3, c4, e, h⟩ := h
  exact ⟨c0, c1, c2, c3, c4, e, ZX.lifted f t c0 c1 c2 c3 c4 h⟩
theorem ZV.form (h : ZV w S f v t) : ∃ (i0 : Int) (l1 : List UInt8) (i2 i3 : Int) (X4 : Option Addr) (n4 z4 : Nat), v = .agg #[.int .i64 i0, strV l1, .int .i64 i2, .int .i64 i3, .slice X4 n4 z4] := by
  obtain ⟨c0, c1, c2, c3, c4, rfl, h⟩ := h
  obtain ⟨i0, l1, i2, i3, X4, n4, z4, rfl, rfl, rfl, rfl, rfl⟩ := h.form
  exact ⟨i0, l1, i2, i3, X4, n4, z4, rfl⟩
end
theorem zeroZ (w : World) (S : Nat → Prop) (f : Nat) : ZX w S (f + 1) (zeroNs : Ns (Sc f)) (.int .i64 0) (.string ⟨#[]⟩) (.int .i64 0) (.int .i64 0) (.slice none 0 0) :=
  ⟨rfl, by show I64 0; unfold I64; decide, rfl, Nat.zero_le _, rfl, by show I64 0; unfold I64; decide, rfl, by show I64 0; unfold I64; decide, ZS.nil _ _ _⟩
/-! Rows of five cells. -/
abbrev QuZ := Value × Value × Value × Value × Value
def fiveZ (q : QuZ) : List Value := [q.1, q.2.1, q.2.2.1, q.2.2.2.1, q.2.2.2.2]
def flatZ (qs : List QuZ) : List Value := qs.flatMap fiveZ
theorem flatZ_cons (q : QuZ) (qs : List QuZ) : flatZ (q :: qs) = fiveZ q ++ flatZ qs := rfl
theorem flatZ_append (a b : List QuZ) : flatZ (a ++ b) = flatZ a ++ flatZ b := List.flatMap_append
theorem flatZ_length : ∀ (qs : List QuZ), (flatZ qs).length = qs.length * 5
  | [] => rfl
  | q :: qs => by rw [flatZ_cons, List.length_append, flatZ_length qs]; simp [fiveZ, Nat.succ_mul]; omega
theorem flatZ_at : ∀ (qs : List QuZ) (i : Nat) (q : QuZ), qs[i]? = some q → (flatZ qs)[i * 5]? = some q.1 ∧ (flatZ qs)[i * 5 + 1]? = some q.2.1 ∧ (flatZ qs)[i * 5 + 2]? = some q.2.2.1 ∧ (flatZ qs)[i * 5 + 3]? = some q.2.2.2.1 ∧ (flatZ qs)[i * 5 + 4]? = some q.2.2.2.2
  | [], i, q, h => by simp at h
  | p :: qs, 0, q, h => by
    simp at h
    subst h
    exact ⟨rfl, rfl, rfl, rfl, rfl⟩
  | p :: qs, i + 1, q, h => by
    obtain ⟨h0, h1, h2, h3, h4⟩ := flatZ_at qs i q (by simpa using h)
    rw [flatZ_cons]
    have e : ∀ k, (fiveZ p ++ flatZ qs)[(i + 1) * 5 + k]? = (flatZ qs)[i * 5 + k]? := fun k => by
      rw [List.getElem?_append_right (by simp [fiveZ]; omega)]
      congr 1
      simp [fiveZ]; omega
    exact ⟨(e 0).trans h0, (e 1).trans h1, (e 2).trans h2, (e 3).trans h3, (e 4).trans h4⟩
def QZ (w : World) (S : Nat → Prop) (f : Nat) (qs : List QuZ) (ks : List (Sc f)) : Prop :=
  qs.length = ks.length ∧ ∀ (i : Nat) (q : QuZ) (t : Sc f), qs[i]? = some q → ks[i]? = some t → ZX w S f t q.1 q.2.1 q.2.2.1 q.2.2.2.1 q.2.2.2.2
section
variable {w w' : World} {S S' : Nat → Prop} {f : Nat} {qs ps : List QuZ} {ks ls : List (Sc f)}
theorem QZ.keepL (h : QZ w S f qs ks) (hs : w.heap.size ≤ w'.heap.size) (hk : ∀ b, S b → b < w.heap.size → w'.heap[b]? = w.heap[b]?) (hS : ∀ b, S b → b < w.heap.size → S' b) : QZ w' S' f qs ks :=
  ⟨h.1, fun i q t hq ht => ZX.keepL f t _ _ _ _ _ (h.2 i q t hq ht) hs hk hS⟩
theorem QZ.below' (h : QZ w S f qs ks) (hb : Below w.heap.size w w') : QZ w' S f qs ks := h.keepL hb.size (fun b _ hlt => hb.block b hlt) fun _ h _ => h
theorem QZ.mono (h : QZ w S f qs ks) (hS : ∀ b, S b → S' b) : QZ w S' f qs ks := h.keepL (Nat.le_refl _) (fun _ _ _ => rfl) fun b sb _ => hS b sb
theorem QZ.nil (w : World) (S : Nat → Prop) (f : Nat) : QZ w S f [] [] := ⟨rfl, fun i q t h => by simp at h⟩
theorem QZ.append (h : QZ w S f qs ks) (g : QZ w S f ps ls) : QZ w S f (qs ++ ps) (ks ++ ls) := by
  refine ⟨by rw [List.length_append, List.length_append, h.1, g.1], fun i q t hq ht => ?_⟩
  rcases Nat.lt_or_ge i qs.length with hi | hi
  · rw [List.getElem?_append_left hi] at hq
    rw [List.getElem?_append_left (by rw [← h.1]; exact hi)] at ht
    exact h.2 i q t hq ht
  · rw [List.getElem?_append_right hi] at hq
    rw [List.getElem?_append_right (by rw [← h.1]; exact hi), ← h.1] at ht
    exact g.2 _ q t hq ht
theorem QZ.one {c0 c1 c2 c3 c4 : Value} {t : Sc f} (h : ZX w S f t c0 c1 c2 c3 c4) : QZ w S f [(c0, c1, c2, c3, c4)] [t] := by
  refine ⟨rfl, fun i q u hq hu => ?_⟩
  match i, hq, hu with
  | 0, hq, hu => simp at hq hu; subst hq hu; exact h
theorem ZX.cells1 {t : Sc f} {c0 c1 c2 c3 c4 : Value} (h : ZX w S f t c0 c1 c2 c3 c4) : ∀ u ∈ fiveZ (c0, c1, c2, c3, c4), u.oneCell' = true := by
  obtain ⟨i0, l1, i2, i3, X3, n3, z3, rfl, rfl, rfl, rfl, rfl⟩ := h.form
  intro u hu
  simp [fiveZ] at hu
  rcases hu with rfl | rfl | rfl | rfl | rfl <;> rfl
end
theorem ZS_of_own {w : World} {S : Nat → Prop} {f base e : Nat} {v : Value} {qs : List QuZ} {ks : List (Sc f)} (h : w.ownsRow base e 5 v qs.length (flatZ qs)) (hq : QZ w S f qs ks)
    (hS : ∀ b, base ≤ b → b < w.heap.size → S b) : ZS w S (ZX w S f) v ks := by
  obtain ⟨_, h2⟩ := h
  rw [hq.1] at h2
  rcases h2 with ⟨rfl, h0⟩ | ⟨g, cap, cur, rfl, hb, hg, hnc, hcm, hcs, htk⟩
  · obtain rfl : ks = [] := List.eq_nil_of_length_eq_zero h0
    exact ZS.nil _ _ _
  · have hlt : g < w.heap.size := (Array.getElem?_eq_some_iff.1 hg).1
    refine ⟨_, cap, rfl, hnc, hcm, (fun h => by cases h), fun h0 => ⟨g, 0, rfl, hS g hb hlt, hlt, fun i t hi => ?_⟩⟩
    have hil := (List.getElem?_eq_some_iff.1 hi).1
    have hqi : qs[i]? = some (qs[i]'(by rw [hq.1]; exact hil)) := List.getElem?_eq_getElem _
    obtain ⟨e0, e1, e2, e3, e4⟩ := flatZ_at qs i _ hqi
    have cell : ∀ k u, k < 5 → (flatZ qs)[i * 5 + k]? = some u → w.cell? ⟨g, 0 + i * 5 + k, none⟩ = some u := fun k u hk hu => by
      rw [cell_of_row w g (0 + i * 5 + k) cur _ (0, 0) hg, Nat.zero_add]
      rw [← htk, List.getElem?_take, if_pos (by omega)] at hu
      simpa using hu
    exact ⟨_, _, _, _, _, cell 0 _ (by omega) e0, cell 1 _ (by omega) e1, cell 2 _ (by omega) e2, cell 3 _ (by omega) e3, cell 4 _ (by omega) e4, hq.2 i _ t hqi hi⟩
end
section
open Go.RowKit
theorem zeq_txt (s s' : ByteArray) (l m : List UInt8) (hs : s = ⟨l.toArray⟩) (hs' : s' = ⟨m.toArray⟩) : (s.toList == s'.toList) = decide (l = m) := by subst hs hs'; exact str_eq l m
theorem zne_txt (s s' : ByteArray) (l m : List UInt8) (hs : s = ⟨l.toArray⟩) (hs' : s' = ⟨m.toArray⟩) : (s.toList != s'.toList) = !decide (l = m) := by rw [bne, zeq_txt s s' l m hs hs']
theorem zeq_prop {s s' : ByteArray} {b : Bool} (h : (s.toList != s'.toList) = b) : (b = true → ¬ s.toList = s'.toList) ∧ (b = false → s.toList = s'.toList) := by
  subst h
  exact ⟨fun h => bne_iff_ne.1 h, fun h => by
    have : ¬ s.toList ≠ s'.toList := fun hn => by rw [bne_iff_ne.2 hn] at h; cases h
    exact Classical.byContradiction fun hn => this hn⟩
theorem ztwo_boxes (w : World) (a b : Array Value) (t u : TypeId) :
    KB ((w.alloc (.cells a t)).alloc (.cells b u)) w.heap.size t a ∧ KB ((w.alloc (.cells a t)).alloc (.cells b u)) (w.heap.size + 1) u b ∧ Below w.heap.size w ((w.alloc (.cells a t)).alloc (.cells b u)) := by
  refine ⟨(KB.new w t a).alloc _, ?_, ((Below.refl _ _).alloc (Nat.le_refl _) _).alloc (by simp) _⟩
  have h := KB.new (w.alloc (.cells a t)) u b
  rwa [World.size_alloc] at h
theorem zsame_long {α β : Type} {g : α → β → Bool} : ∀ {l : List α} {m : List β}, l.length ≠ m.length → sameSL g l m = false := fun {l m} h => by
  cases hb : sameSL g l m with
  | false => rfl
  | true => exact absurd (sameSL_len l m hb) h
theorem zsame_yes {α β : Type} {g : α → β → Bool} : ∀ {l : List α} {m : List β}, l.length = m.length → (∀ (i : Nat) (a : α) (b : β), l[i]? = some a → m[i]? = some b → g a b = true) → sameSL g l m = true
  | [], [], _, _ => rfl
  | [], _ :: _, h, _ => by simp at h
  | _ :: _, [], h, _ => by simp at h
  | a :: l, b :: m, h, k => by
    rw [sameSL, k 0 a b rfl rfl, zsame_yes (by simpa using h) fun i x y hx hy => k (i + 1) x y (by simpa using hx) (by simpa using hy)]; rfl
theorem zsame_stop {α β : Type} {g : α → β → Bool} : ∀ {l : List α} {m : List β} {i : Nat} {a : α} {b : β}, l[i]? = some a → m[i]? = some b → g a b = false → sameSL g l m = false
  | [], _, _, _, _, h, _, _ => by simp at h
  | _ :: _, [], _, _, _, _, h, _ => by simp at h
  | c :: l, d :: m, 0, a, b, h1, h2, h => by
    simp at h1 h2
    subst h1 h2
    rw [sameSL, h]; rfl
  | c :: l, d :: m, i + 1, a, b, h1, h2, h => by
    rw [sameSL, zsame_stop (l := l) (m := m) (i := i) (by simpa using h1) (by simpa using h2) h]; simp
theorem kid_zb {w wr : World} {S : Nat → Prop} {f : Nat} {A : Option Addr} {c n : Nat} {ks : List (Sc f)} (h : ZS w S (ZX w S f) (.slice A n c) ks) (hn : ks.length = n) (hb : Below w.heap.size w wr) (j : Nat) (hj : j < ks.length) :
    ∃ b o e0 e1 e2 e3 e4, A = some ⟨b, o, none⟩ ∧ b < w.heap.size ∧ wr.cell? ⟨b, o + j * 5, none⟩ = some e0 ∧ wr.cell? ⟨b, o + j * 5 + 1, none⟩ = some e1 ∧ wr.cell? ⟨b, o + j * 5 + 2, none⟩ = some e2 ∧ wr.cell? ⟨b, o + j * 5 + 3, none⟩ = some e3 ∧ wr.cell? ⟨b, o + j * 5 + 4, none⟩ = some e4 ∧
      ZV wr S f (.agg #[e0, e1, e2, e3, e4]) ks[j] := by
  obtain ⟨b, o, e0, e1, e2, e3, e4, ea, hlt, k0, k1, k2, k3, k4, h⟩ := kid_z h hn hb.size (fun b _ hl => hb.block b hl) j hj
  exact ⟨b, o, e0, e1, e2, e3, e4, ea, hlt, k0, k1, k2, k3, k4, e0, e1, e2, e3, e4, rfl, h⟩
def fewZ : (f : Nat) → Sc f → Prop
  | 0, x => nomatch x
  | f + 1, (x : Ns (Sc f)) => x.kids.length ≤ 1000000 ∧ x.name.length ≤ 1000000 ∧ ∀ u, u ∈ x.kids → fewZ f u
theorem znamed_any (k : Int) (w : World) : Calls Tryz.prog 41 #[.int .i64 k] w fun e w' => e = .returned (.bool (namedS k)) ∧ w' = w := by
  unfold namedS
  by_cases h2 : k = 2
  · subst h2
    go_enter Tryz.func41, Tryz.ntmps41
    go_wp2_with fail
    go_ret
    exact ⟨rfl, rfl⟩
  by_cases h3 : k = 3
  · subst h3
    go_enter Tryz.func41, Tryz.ntmps41
    go_wp2_with fail
    go_ret
    exact ⟨rfl, rfl⟩
  have hr : decide (k = 2 ∨ k = 3 ∨ k = 4) = decide (k = 4) := by simp [h2, h3]
  rw [hr]
  clear hr
  have g2 : (k == 2) = false := beq_eq_false_iff_ne.2 h2
  have g3 : (k == 3) = false := beq_eq_false_iff_ne.2 h3
  by_cases h4 : k = 4
  · subst h4
    go_enter Tryz.func41, Tryz.ntmps41
    go_wp2_with fail
    go_ret
    exact ⟨rfl, rfl⟩
  · rw [decide_eq_false h4]
    have g4 : (k == 4) = false := beq_eq_false_iff_ne.2 h4
    go_enter Tryz.func41, Tryz.ntmps41
    go_wp2_with fail
    go_ret
    exact ⟨rfl, rfl⟩
theorem zmany_any (k : Int) (w : World) : Calls Tryz.prog 43 #[.int .i64 k] w fun e w' => e = .returned (.bool (manyS k)) ∧ w' = w := by
  unfold manyS
  by_cases h2 : k = 6
  · subst h2
    go_enter Tryz.func43, Tryz.ntmps43
    go_wp2_with fail
    go_ret
    exact ⟨rfl, rfl⟩
  have hr : decide (k = 6 ∨ k = 7) = decide (k = 7) := by simp [h2]
  rw [hr]
  clear hr
  have g2 : (k == 6) = false := beq_eq_false_iff_ne.2 h2
  by_cases h4 : k = 7
  · subst h4
    go_enter Tryz.func43, Tryz.ntmps43
    go_wp2_with fail
    go_ret
    exact ⟨rfl, rfl⟩
  · rw [decide_eq_false h4]
    have g4 : (k == 7) = false := beq_eq_false_iff_ne.2 h4
    go_enter Tryz.func43, Tryz.ntmps43
    go_wp2_with fail
    go_ret
    exact ⟨rfl, rfl⟩
set_option maxHeartbeats 4000000 in
theorem zsmall_few (S : Nat → Prop) : ∀ (f : Nat) (t : Sc f) (v : Value) (n d : Int) (w : World), -1 ≤ n → n ≤ 1000 → -1000 ≤ d → d ≤ 1000 → ZV w S f v t →
    Calls Tryz.prog 13 #[v, .int .i64 n, .int .i64 d] w fun e w' => ∃ m : Int, e = .returned (.int .i64 m) ∧ -1 ≤ m ∧ m ≤ 1000 ∧ (0 ≤ m → fewZ f t) ∧ Below w.heap.size w w' := by
  intro f
  induction f with
  | zero => intro t; exact nomatch t
  | succ f ih =>
    intro t v n d w hn hn2 hd hd2 hv
    obtain ⟨c0, c1, c2, c3, c4, rfl, rfl, hk, rfl, hml, rfl, hfr, rfl, hto, hks⟩ := hv
    obtain ⟨A3, cap3, e3, hl3, hm3, _⟩ := id hks
    subst e3
    have HFew : Hid ((t : Ns (Sc f)).kids.length ≤ 1000000 → (t : Ns (Sc f)).name.length ≤ 1000000 → (∀ u, u ∈ (t : Ns (Sc f)).kids → fewZ f u) → fewZ (f + 1) t) := fun h1 h2 h3 => ⟨h1, h2, h3⟩
    obtain ⟨FT, hFT⟩ : ∃ FT : Prop, FT = fewZ (f + 1) t := ⟨_, rfl⟩
    rw [← hFT]
    rw [← hFT] at HFew
    clear hFT
    have hmlen : (t : Ns (Sc f)).name.length ≤ 9223372036854775807 := by unfold maxLen at hml; omega
    have hsz : ((⟨(t : Ns (Sc f)).name.toArray⟩ : ByteArray).size : Int) = ((t : Ns (Sc f)).name.length : Int) := rfl
    generalize (t : Ns (Sc f)).op = k at *
    generalize (t : Ns (Sc f)).from_ = fr at *
    generalize (t : Ns (Sc f)).to_ = to_ at *
    generalize (t : Ns (Sc f)).name = l at *
    generalize (t : Ns (Sc f)).kids = ks at *
    clear t
    have hlen : ks.length ≤ 9223372036854775807 := by unfold maxLen at hm3; omega
    have W1 : wrap64 (n - 1) = n - 1 := IntWalk.wrap64_in _ (by omega)
    have W2 : wrap64 (d - 1) = d - 1 := IntWalk.wrap64_in _ (by omega)
    have I1 : IntKind.i64.wrap (n - 1) = n - 1 := by rw [IntKind.wrap_i64]; omega
    have I2 : IntKind.i64.wrap (d - 1) = d - 1 := by rw [IntKind.wrap_i64]; omega
    unfold strV at *
    obtain ⟨s, hs⟩ : ∃ s : ByteArray, s = ⟨l.toArray⟩ := ⟨_, rfl⟩
    rw [← hs] at hsz ⊢
    clear hs
    obtain ⟨ln, hln⟩ : ∃ ln, ln = l.length := ⟨_, rfl⟩
    rw [← hln] at hsz hmlen HFew
    clear hln hml
    obtain ⟨kl, hkl⟩ : ∃ kl, kl = ks.length := ⟨_, rfl⟩
    rw [← hkl] at hks hl3 hlen ⊢
    have HKL := Lib.hid hkl
    clear hkl
    have kb := KB.new w 24 #[.int .i64 k, .string s, .int .i64 fr, .int .i64 to_, .slice A3 kl cap3]
    have B0 := (Below.refl w.heap.size w).alloc (Nat.le_refl _) (.cells #[.int .i64 k, .string s, .int .i64 fr, .int .i64 to_, .slice A3 kl cap3] 24)
    have hno : ∀ W', Below w.heap.size w W' → ∃ m : Int, Ending.returned (.int .i64 (-1)) = .returned (.int .i64 m) ∧ -1 ≤ m ∧ m ≤ 1000 ∧ (0 ≤ m → FT) ∧ Below w.heap.size w W' := fun W' h => ⟨-1, rfl, by omega, by omega, fun h => by omega, h⟩
    have HNO := Lib.hid hno
    clear hno
    by_cases h1 : n < 1
    · have E := decide_eq_true h1
      go_enter Tryz.func13, Tryz.ntmps13
      go_wp2_with fail
      go_ret
      exact HNO.out _ B0
    have E1 : decide (n < 1) = false := decide_eq_false h1
    by_cases h2 : d < 1
    · have E := decide_eq_true h2
      go_enter Tryz.func13, Tryz.ntmps13
      go_wp2_with fail
      go_ret
      exact HNO.out _ B0
    have E2 : decide (d < 1) = false := decide_eq_false h2
    by_cases h3 : n < (kl : Int)
    · have E := decide_eq_true h3
      go_enter Tryz.func13, Tryz.ntmps13
      go_wp2_with fail
      go_ret
      exact HNO.out _ B0
    have E3 : decide (n < (kl : Int)) = false := decide_eq_false h3
    by_cases h4 : 100 < ln
    · have E : decide ((100 : Int) < (ln : Int)) = true := decide_eq_true (by omega)
      have E' : decide (100 < ln) = true := decide_eq_true h4
      go_enter Tryz.func13, Tryz.ntmps13
      go_wp2_with fail
      go_ret
      exact HNO.out _ B0
    have E4 : decide ((100 : Int) < (ln : Int)) = false := decide_eq_false (by omega)
    have E4' : decide (100 < ln) = false := decide_eq_false h4
    go_enter Tryz.func13, Tryz.ntmps13
    go_wp2_with fail
    clear E1 E2 E3 E4 E4'
    go_loopw [1, 7] (fun mv iv wr => ∃ (m : Int) (j : Nat), -1 ≤ m ∧ m ≤ 1000 ∧ Hid (0 ≤ m → ∀ i (h : i < ks.length), i < j → fewZ f ks[i]) ∧ j ≤ kl ∧ mv = .int .i64 m ∧ iv = .int .i64 j ∧
      KB wr w.heap.size 24 #[.int .i64 k, .string s, .int .i64 fr, .int .i64 to_, .slice A3 kl cap3] ∧ Below w.heap.size w wr) (fun mv iv _ => kl - (intOf iv).toNat)
    case atStart => exact ⟨n - 1, 0, by omega, by omega, fun _ i _ h => absurd h (Nat.not_lt_zero _), by omega, rfl, rfl, kb, B0⟩
    case round =>
      obtain ⟨m, j, hmm, hmk, hfw, hj, rfl, rfl, K, B⟩ := hrel
      have q3 : wr.cell? ⟨w.heap.size, 4, none⟩ = some (.slice A3 kl cap3) := K.cell 4
      by_cases hlt : j < kl
      · have hltI : (j : Int) < (kl : Int) := by omega
        by_cases hm0 : 0 ≤ m
        · have hjk : j < ks.length := by rw [← HKL.out]; exact hlt
          obtain ⟨b, o, e0, e1, e2, e3, e4, rfl, _, k0, k1, k2, k3, k4, hv⟩ := kid_zb hks HKL.out.symm B j hjk
          have hc := ih ks[j] (.agg #[e0, e1, e2, e3, e4]) m (d - 1) wr hmm hmk (by omega) (by omega) hv
          clear hv
          go_wp2_with fail
          refine hc.mono ?_
          rintro e w5 ⟨m5, rfl, h5, h5k, hf5, b5⟩
          have HF5 := Lib.hid hf5
          have HW : Hid (0 ≤ m5 → ∀ i (h : i < ks.length), i < j + 1 → fewZ f ks[i]) := by
            intro h0 i hi hij
            by_cases hij' : i < j
            · exact hfw.out hm0 i hi hij'
            · obtain rfl : i = j := by omega
              exact HF5.out h0
          clear hf5 HF5 hfw
          have K5 := K.below b5 K.lt
          have B5 := B.trans (b5.mono B.size)
          clear hc hjk
          go_wp2_with fail
          go_roundw
          case rel => exact ⟨m5, j + 1, h5, h5k, HW, by omega, rfl, by go_num, K5, B5⟩
          case measure => simp [intOf]; omega
        · go_wp2_with fail
          go_ret
          exact ⟨m, rfl, hmm, hmk, fun h => by omega, B⟩
      · go_wp2_with fail
        go_ret
        exact ⟨m, rfl, hmm, hmk, fun h => HFew.out (by rw [← HKL.out]; omega) (by omega) fun u hu => by
          obtain ⟨i, hi, e⟩ := List.mem_iff_getElem.1 hu
          rw [← e]
          exact hfw.out h i hi (by rw [← HKL.out] at hi; omega), B⟩
theorem zsmall_any (S : Nat → Prop) (f : Nat) (t : Sc f) (v : Value) (w : World) (hv : ZV w S f v t) :
    Calls Tryz.prog 5 #[v] w fun e w' => ∃ b : Bool, e = .returned (.bool b) ∧ (b = true → fewZ f t) ∧ Below w.heap.size w w' := by
  obtain ⟨c0, c1, c2, c3, c4, rfl, ht⟩ := hv
  have hv2 : ZV (w.alloc (.cells #[c0, c1, c2, c3, c4] 24)) S f (.agg #[c0, c1, c2, c3, c4]) t := ZV.alloc ⟨c0, c1, c2, c3, c4, rfl, ht⟩ _
  have hr := zsmall_few S f t _ 60 30 _ (by omega) (by omega) (by omega) (by omega) hv2
  clear hv2
  have B0 := (Below.refl w.heap.size w).alloc (Nat.le_refl _) (.cells #[c0, c1, c2, c3, c4] 24)
  obtain ⟨i0, l1, i2, i3, X4, n4, z4, rfl, rfl, rfl, rfl, rfl⟩ := ht.form
  unfold strV at *
  clear ht
  generalize fewZ f t = F at *
  go_enter Tryz.func5, Tryz.ntmps5
  go_wp2_with fail
  refine hr.mono ?_
  rintro e w5 ⟨m, rfl, h5, h6, hf, b5⟩
  have B5 := B0.trans (b5.mono (by simp))
  have HF := Lib.hid hf
  clear hr hf
  by_cases h0 : 0 ≤ m
  · have E := decide_eq_true h0
    go_wp2_with fail
    go_ret
    exact ⟨true, by simp, fun _ => HF.out h0, B5⟩
  · have E := decide_eq_false h0
    go_wp2_with fail
    go_ret
    exact ⟨false, by simp, (fun h => by cases h), B5⟩
end
section
open Go.RowKit
theorem str_size (l : List UInt8) : (⟨l.toArray⟩ : ByteArray).size = l.length := rfl
theorem txt_at (l : List UInt8) (k : Nat) (x : UInt8) (hx : l[k]? = some x) : ∀ W : World, (Instr.index 9 (.string ⟨l.toArray⟩) (.int .i64 (k : Int))).run Tryz.prog W = .ok (.int .u8 (x.toNat : Int)) W := fun W => by
  have hk := (List.getElem?_eq_some_iff.1 hx).1
  have hs : (⟨l.toArray⟩ : ByteArray).size = l.length := rfl
  rw [run_index_string W 9 ⟨l.toArray⟩ .i64 (k : Int) Tryz.underlying9, dif_pos ⟨by omega, by rw [hs]; omega⟩]
  simp only [Int.toNat_natCast]
  have e : (⟨l.toArray⟩ : ByteArray)[k]'(by rw [hs]; exact hk) = x := by
    have := (List.getElem?_eq_some_iff.1 hx).2
    exact this
  rw [e]
theorem txt_to (l : List UInt8) (k : Nat) (hk : k ≤ l.length) : ∀ W : World, (Instr.slice 9 (.string ⟨l.toArray⟩) none (some (.int .i64 (k : Int))) none).run Tryz.prog W = .ok (.string ⟨(l.take k).toArray⟩) W := fun W => by
  rw [run_slice_string_to_if W 9 ⟨l.toArray⟩ .i64 (k : Int) Tryz.underlying9, if_pos ⟨by omega, by rw [str_size]; omega⟩, Int.toNat_natCast, ByteArray.extract_mk]
  simp
theorem txt_mid (l : List UInt8) (i j : IntKind) (a b : Nat) (hab : a ≤ b) (hb : b ≤ l.length) : ∀ W : World, (Instr.slice 9 (.string ⟨l.toArray⟩) (some (.int i (a : Int))) (some (.int j (b : Int))) none).run Tryz.prog W = .ok (.string ⟨((l.drop a).take (b - a)).toArray⟩) W := fun W => by
  rw [run_slice_string W 9 ⟨l.toArray⟩ i j (a : Int) (b : Int) Tryz.underlying9 (by omega) (by omega) (by rw [str_size]; omega), Int.toNat_natCast, Int.toNat_natCast, ByteArray.extract_mk]
theorem txt_from (l : List UInt8) (k : Nat) (hk : k ≤ l.length) : ∀ W : World, (Instr.slice 9 (.string ⟨l.toArray⟩) (some (.int .i64 (k : Int))) none none).run Tryz.prog W = .ok (.string ⟨(l.drop k).toArray⟩) W := fun W => by
  rw [run_slice_string_from_if W 9 ⟨l.toArray⟩ .i64 (k : Int) Tryz.underlying9, if_pos ⟨by omega, by rw [str_size]; omega⟩, Int.toNat_natCast, ByteArray.extract_mk]
  have : ((l.drop k).take (l.length - k)) = l.drop k := List.take_of_length_le (by simp)
  simp [str_size, this]
theorem txt_add (l m : List UInt8) (h : l.length + m.length ≤ 9223372036854775807) : ∀ W : World, (Op.stringOp .add ⟨l.toArray⟩ ⟨m.toArray⟩).run Tryz.prog W = .ok (.string ⟨(l ++ m).toArray⟩) W := fun W => by
  rw [run_string_add_sum W _ _ (by rw [str_size, str_size]; exact h), ByteArray.mk_append_mk]
end
end Go.Proofs.YtjecjlhofnnnpaaGreatDoor
