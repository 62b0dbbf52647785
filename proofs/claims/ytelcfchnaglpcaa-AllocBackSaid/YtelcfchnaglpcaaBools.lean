/-
  Lists of bools in memory: what a []bool reads as; one that came in: over the loaded program. No condition.
-/
import Derived.Test.YtelcfchnaglpcaaDkO
namespace Go.Proofs.Ytelcfchnaglpcaa
open Go.RowKit Go.ChangeShapes Go.WideShapes Go.Joins
set_option linter.unusedVariables false

/-- The slice value v reads, in w, as the bools l; where it is not empty it lies in a block of which S holds. -/
def BO (w : World) (S : Nat → Prop) (v : Value) (l : List Bool) : Prop :=
  ∃ A c, v = .slice A l.length c ∧ l.length ≤ c ∧ c ≤ maxLen ∧
    (0 < l.length → ∃ b o, A = some ⟨b, o, none⟩ ∧ S b ∧ b < w.heap.size ∧ ∀ j z, l[j]? = some z → w.cell? ⟨b, o + j, none⟩ = some (.bool z))
section
variable {w w' : World} {S S' : Nat → Prop} {v : Value} {l : List Bool}
theorem BO.keep (h : BO w S v l) (hs : w.heap.size ≤ w'.heap.size) (hk : ∀ b, S b → b < w.heap.size → w'.heap[b]? = w.heap[b]?) : BO w' S v l := by
  obtain ⟨A, c, e, hl, hc, hx⟩ := h
  refine ⟨A, c, e, hl, hc, fun h0 => ?_⟩
  obtain ⟨b, o, ea, sb, hb, hx⟩ := hx h0
  exact ⟨b, o, ea, sb, by omega, fun j u hu => (World.cell?_of_block (w := w) (hk b sb hb)).trans (hx j u hu)⟩
theorem BO.mono (h : BO w S v l) (hs : ∀ b, S b → S' b) : BO w S' v l := by
  obtain ⟨A, c, e, hl, hc, hx⟩ := h
  refine ⟨A, c, e, hl, hc, fun h0 => ?_⟩
  obtain ⟨b, o, ea, sb, r⟩ := hx h0
  exact ⟨b, o, ea, hs b sb, r⟩
theorem BO.lt (h : BO w S v l) : BO w (fun b => S b ∧ b < w.heap.size) v l := by
  obtain ⟨A, c, e, hl, hc, hx⟩ := h
  refine ⟨A, c, e, hl, hc, fun h0 => ?_⟩
  obtain ⟨b, o, ea, sb, hb, r⟩ := hx h0
  exact ⟨b, o, ea, ⟨sb, hb⟩, hb, r⟩
theorem BO.below' (h : BO w S v l) (hg : Below w.heap.size w w') : BO w' S v l := h.keep hg.size fun b _ hb => hg.block b hb
theorem BO.alloc (h : BO w S v l) (o : Obj) : BO (w.alloc o) S v l := h.keep (by simp) fun b _ hb => Below.heap_alloc w o b hb
theorem BO.drewN (h : BO w S v l) (n : Nat) : BO (w.drewN n) S v l := h
theorem BO.form (h : BO w S v l) : ∃ A c, v = .slice A l.length c ∧ l.length ≤ c ∧ c ≤ maxLen := by
  obtain ⟨A, c, e, hl, hc, hx⟩ := h
  exact ⟨A, c, e, hl, hc⟩
theorem BO.at_ {A : Option Addr} {n c : Nat} (h : BO w S (.slice A n c) l) (hp : 0 < l.length) :
    ∃ b o, A = some ⟨b, o, none⟩ ∧ S b ∧ b < w.heap.size ∧ ∀ j z, l[j]? = some z → w.cell? ⟨b, o + j, none⟩ = some (.bool z) := by
  obtain ⟨A', c', e, hl, hc, hx⟩ := h
  injection e with e1 e2 e3
  subst e1
  exact hx hp
theorem BO.of_cs (h : CS w S v (l.map Value.bool)) : BO w S v l := by
  obtain ⟨A, c, e, hl, hc, hx⟩ := h
  rw [List.length_map] at e hl hx
  refine ⟨A, c, e, hl, hc, fun h0 => ?_⟩
  obtain ⟨b, o, ea, sb, hb, hx⟩ := hx h0
  exact ⟨b, o, ea, sb, hb, fun j z hz => hx j _ (by rw [List.getElem?_map, hz]; rfl)⟩
/-- A list of known bools, laid into a block of the call's own. -/
theorem BO.lit (w : World) (t : TypeId) (l : List Bool) (hl : l.length ≤ maxLen) (fr : Nat × Nat := (0, 0)) : BO (w.alloc (.cells (l.map Value.bool).toArray t fr)) (fun b => w.heap.size ≤ b) (.slice (some ⟨w.heap.size, 0, none⟩) l.length l.length) l := by
  refine ⟨_, _, rfl, Nat.le_refl _, hl, fun _ => ⟨w.heap.size, 0, rfl, Nat.le_refl _, by simp, fun j u hu => ?_⟩⟩
  rw [Nat.zero_add, cell_of_row _ w.heap.size j _ t fr (heap_alloc_new w _)]
  simp [hu]
end
/-- A list of bools that came in. -/
theorem BO_of_arg {H : Type} {enc : TypeId × Value → H} {W : World} {base : Nat} {v : Value} {d : DataW H} {p : List MemPlace}
    (ok : Value.okWide Try.prog W .any base 22 v) (h : DataW.Trod enc Try.prog W 0 (fun _ => true) true 22 v d p) : ∃ l, BO W (fun b => b < W.heap.size) v l := by
  obtain ⟨l, hl⟩ := open_keep ok h
  exact ⟨l, BO.of_cs hl⟩
end Go.Proofs.Ytelcfchnaglpcaa
