/-
  What a call hands back out of a block; conditions kept where more is known of their blocks: over the loaded program. No condition.
-/
import Derived.Test.YtommcdgognlfcaaRuY
namespace Go.Proofs.Ytommcdgognlfcaa
open Go.RowKit
set_option maxRecDepth 100000
set_option linter.unusedVariables false

theorem results_cell {P : Program} {fn : Func} {p : Tmp} {ty : TypeId} (h : fn.results = #[.cell p ty]) (tmps : Array Value) (w : World) (g : Nat) (t : TypeId) (cs : Array Value) (fr : Nat × Nat) (d : TypeDesc)
    (hp : tmps.getD p undef = .pointer (some ⟨g, 0, none⟩)) (hg : w.heap[g]? = some (.cells cs t fr))
    (hu : P.underlying ty = some d) (hd : (match d with | .struct _ | .array _ _ => true | _ => false) = true) (hi : (P.info? ty).map (·.size) = some cs.size) :
    (results fn tmps).run P w = .ok (.agg cs) w := by
  have hp' : tmps[p]?.getD undef = .pointer (some ⟨g, 0, none⟩) := by simpa using hp
  simp [results, h, hp', asAddr, run_loadVar_row w g t ty cs fr d hg hu hd hi]

theorem XS.mapL {α : Type} {E E' : α → Value → Value → Value → Value → Prop} {w w' : World} {S S' : Nat → Prop} {v : Value} {ks : List α} (h : XS w S E v ks)
    (hs : w.heap.size ≤ w'.heap.size) (hk : ∀ b, S b → b < w.heap.size → w'.heap[b]? = w.heap[b]?) (hS : ∀ b, S b → b < w.heap.size → S' b) (he : ∀ t c0 c1 c2 c3, E t c0 c1 c2 c3 → E' t c0 c1 c2 c3) : XS w' S' E' v ks := by
  obtain ⟨A, c, e, hl, hc, hx⟩ := h
  refine ⟨A, c, e, hl, hc, fun h0 => ?_⟩
  obtain ⟨b, o, ea, sb, hb, hx⟩ := hx h0
  refine ⟨b, o, ea, hS b sb hb, by omega, fun i t hi => ?_⟩
  obtain ⟨c0, c1, c2, c3, k0, k1, k2, k3, ke⟩ := hx i t hi
  have hc := fun (x : Nat) => World.cell?_of_block (w := w) (w' := w') (a := ⟨b, x, none⟩) (hk b sb hb)
  exact ⟨c0, c1, c2, c3, (hc _).trans k0, (hc _).trans k1, (hc _).trans k2, (hc _).trans k3, he _ _ _ _ _ ke⟩
theorem EX.keepL {w w' : World} {S S' : Nat → Prop} : ∀ (f : Nat) (t : Ex f) (c0 c1 c2 c3 : Value), EX w S f t c0 c1 c2 c3 → w.heap.size ≤ w'.heap.size → (∀ b, S b → b < w.heap.size → w'.heap[b]? = w.heap[b]?) → (∀ b, S b → b < w.heap.size → S' b) → EX w' S' f t c0 c1 c2 c3
  | 0, t, _, _, _, _, _, _, _, _ => nomatch t
  | f + 1, (t : Nx (Ex f)), c0, c1, c2, c3, h, hs, hk, hS => by
    obtain ⟨h0, h1, h2, h3, h4, h4', h5⟩ := h
    exact ⟨h0, h1, h2, h3, h4, h4', XS.mapL (w' := w') (S' := S') (E' := EX w' S' f) h5 hs hk hS fun u d0 d1 d2 d3 hu => EX.keepL f u d0 d1 d2 d3 hu hs hk hS⟩
theorem QX.keepL {w w' : World} {S S' : Nat → Prop} {f : Nat} {qs : List QuX} {ks : List (Ex f)} (h : QX w S f qs ks) (hs : w.heap.size ≤ w'.heap.size) (hk : ∀ b, S b → b < w.heap.size → w'.heap[b]? = w.heap[b]?) (hS : ∀ b, S b → b < w.heap.size → S' b) : QX w' S' f qs ks :=
  ⟨h.1, fun i q t hq ht => EX.keepL f t _ _ _ _ (h.2 i q t hq ht) hs hk hS⟩

end Go.Proofs.Ytommcdgognlfcaa
