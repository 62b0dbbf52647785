/-
  DrK: Lists of terms in memory, cut: the first few, all but the first few; one of them, as a whole term. No condition.
-/
import Derived.Test.YthgaljgelngmaaaDoorDv02

section
namespace Go.Proofs.YthgaljgelngmaaaDoor
open Go.RowKit
set_option linter.unusedVariables false

theorem KS.take {α : Type} {w : World} {S : Nat → Prop} {E : α → Value → Value → Value → Value → Prop} {A : Option Addr} {n c : Nat} {ks : List α} (h : KS w S E (.slice A n c) ks) (k : Nat) (hk : k ≤ ks.length) : KS w S E (.slice A k c) (ks.take k) := by
  obtain ⟨A', c', e, hl, hc, hn, hx⟩ := h
  injection e with e1 e2 e3
  subst e1 e2 e3
  have hlen : (ks.take k).length = k := by rw [List.length_take]; omega
  refine ⟨A, c, by rw [hlen], by omega, hc, hn, fun h0 => ?_⟩
  rw [hlen] at h0
  obtain ⟨b, o, ea, sb, hb, hx⟩ := hx (by omega)
  refine ⟨b, o, ea, sb, hb, fun i t hi => hx i t ?_⟩
  rw [List.getElem?_take] at hi
  split at hi
  · exact hi
  · cases hi
theorem KS.drop {α : Type} {w : World} {S : Nat → Prop} {E : α → Value → Value → Value → Value → Prop} {b o n c : Nat} {ks : List α} (h : KS w S E (.slice (some ⟨b, o, none⟩) n c) ks) (k : Nat) (hk : k ≤ ks.length) :
    KS w S E (.slice (some (if c = k then ⟨b, o, none⟩ else ⟨b, o + k * 4, none⟩)) (n - k) (c - k)) (ks.drop k) := by
  obtain ⟨A', c', e, hl, hc, hn, hx⟩ := h
  injection e with e1 e2 e3
  subst e2 e3
  have hlen : (ks.drop k).length = ks.length - k := List.length_drop
  refine ⟨some (if c = k then ⟨b, o, none⟩ else ⟨b, o + k * 4, none⟩), c - k, by rw [hlen], by rw [hlen]; omega, by omega, (fun h => by cases h), fun h0 => ?_⟩
  rw [hlen] at h0
  obtain ⟨b', o', ea, sb, hb, hx⟩ := hx (by omega)
  rw [← e1] at ea
  injection ea with ea
  injection ea with ea1 ea2
  subst ea1 ea2
  rw [if_neg (by omega)]
  refine ⟨b, o + k * 4, rfl, sb, hb, fun i t hi => ?_⟩
  rw [List.getElem?_drop] at hi
  have := hx (k + i) t hi
  rw [show o + (k + i) * 4 = o + k * 4 + i * 4 by omega] at this
  exact this
theorem KS.one {w : World} {S : Nat → Prop} {f : Nat} {v : Value} {ks : List (Tm f)} (h : KS w S (TM w S f) v ks) (i : Nat) (t : Tm f) (hi : ks[i]? = some t) :
    ∃ b o c0 c1 c2 c3, (∃ n c, v = .slice (some ⟨b, o, none⟩) n c) ∧ S b ∧ b < w.heap.size ∧ w.cell? ⟨b, o + i * 4, none⟩ = some c0 ∧ w.cell? ⟨b, o + i * 4 + 1, none⟩ = some c1 ∧ w.cell? ⟨b, o + i * 4 + 2, none⟩ = some c2 ∧ w.cell? ⟨b, o + i * 4 + 3, none⟩ = some c3 ∧ TV w S f (.agg #[c0, c1, c2, c3]) t := by
  obtain ⟨A, c, e, hl, hc, hn, hx⟩ := h
  have hlt := (List.getElem?_eq_some_iff.1 hi).1
  obtain ⟨b, o, ea, sb, hb, hx⟩ := hx (by omega)
  obtain ⟨c0, c1, c2, c3, k0, k1, k2, k3, ke⟩ := hx i t hi
  exact ⟨b, o, c0, c1, c2, c3, ⟨_, _, by rw [e, ea]⟩, sb, hb, k0, k1, k2, k3, c0, c1, c2, c3, rfl, ke⟩
theorem KS.keep {w w' : World} {S : Nat → Prop} {f : Nat} {v : Value} {ks : List (Tm f)} (h : KS w S (TM w S f) v ks) (hs : w.heap.size ≤ w'.heap.size) (hk : ∀ b, S b → b < w.heap.size → w'.heap[b]? = w.heap[b]?) : KS w' S (TM w' S f) v ks := by
  have := KS.map (w' := w') (S' := S) (E' := TM w' S f) id h hs hk (fun _ h => h) fun u d0 d1 d2 d3 hu => TM.keepS f u d0 d1 d2 d3 hu hs hk fun _ h => h
  rw [List.map_id] at this
  exact this
theorem KS.lifted {w : World} {S : Nat → Prop} {f : Nat} {v : Value} {ks : List (Tm f)} (h : KS w S (TM w S f) v ks) : KS w S (TM w S (f + 1)) v (ks.map (lift f)) :=
  KS.map (lift f) h (Nat.le_refl _) (fun _ _ _ => rfl) (fun _ h => h) fun t c0 c1 c2 c3 ht => TM.lifted f t c0 c1 c2 c3 ht
end Go.Proofs.YthgaljgelngmaaaDoor
end
