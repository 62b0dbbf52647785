/-
  ScB: Plain mathematics of layer 20 (scope): how many parts more there may be behind a scope, kid by kid; what fits, by the kind. No program. No condition.
  Held: A region that draws its order, operation by operation, over any program: what only reads is taken first, whether its guard lets it be done or not; what is to be done next alone is done. No condition.
  ScG: The document's left (layer 20), over the loaded program: where it is low, flat or of no kind. No condition but the sizes that each contract names.
  ScGN: The document's left (layer 20), over the loaded program: of a case, a subject or a class. No condition but the sizes that each contract names.
-/
import Derived.Test.YtjecjlhofnnnpaaGreatDoorWy03
import Derived.Deep.RegionHeld3
import Derived.Maps.RangeWalk
import Derived.Tactics
import Derived.KernelRfl
import Derived.Test.YtjecjlhofnnnpaaGreatDoorWy05
import Derived.Test.YtjecjlhofnnnpaaGreatDoorWy13
import Derived.WalkSpells
import Derived.BigQuiet
set_option linter.unusedVariables false
set_option maxRecDepth 100000
namespace Go.Proofs.YtjecjlhofnnnpaaGreatDoor
section
def leftS (f : Nat) (x : Sc f) (n d : Int) : Int := if okS f x d = true ∧ (nodesS f x : Int) ≤ n then n - nodesS f x else -1
def sumS (f : Nat) (ks : List (Sc f)) (j : Nat) : Nat := ((ks.take j).map (nodesS f)).sum
theorem zsum_split {f : Nat} (ks : List (Sc f)) (j : Nat) : (ks.map (nodesS f)).sum = sumS f ks j + ((ks.drop j).map (nodesS f)).sum := by
  unfold sumS
  rw [← List.sum_append, ← List.map_append, List.take_append_drop]
theorem sumS_step {f : Nat} (ks : List (Sc f)) (j : Nat) (hj : j < ks.length) : sumS f ks (j + 1) = sumS f ks j + nodesS f ks[j] := by
  unfold sumS
  rw [List.take_add_one, List.getElem?_eq_getElem hj, List.map_append, List.sum_append]
  simp
theorem sumS_le {f : Nat} (ks : List (Sc f)) (j : Nat) : sumS f ks j ≤ (ks.map (nodesS f)).sum := by have := zsum_split ks j; omega
theorem zallS_step {f : Nat} {ks : List (Sc f)} {d : Int} {j : Nat} (hj : j < ks.length) (h : ((ks.take j).all fun u => okS f u d) = true) (hk : okS f ks[j] d = true) : ((ks.take (j + 1)).all fun u => okS f u d) = true := by
  rw [List.take_add_one, List.getElem?_eq_getElem hj, List.all_append, h]
  simp [hk]
theorem zallS_stop {f : Nat} {ks : List (Sc f)} {d : Int} {j : Nat} (hj : j < ks.length) (hk : okS f ks[j] d = false) : (ks.all fun u => okS f u d) = false := by
  cases hq : ks.all fun u => okS f u d with
  | false => rfl
  | true =>
    have := List.all_eq_true.1 hq ks[j] (List.getElem_mem hj)
    rw [hk] at this
    cases this
theorem zleft_low {f : Nat} (x : Sc f) {n d : Int} (h : n < 1) : leftS f x n d = -1 := by
  unfold leftS
  have := nodesS_pos f x
  rw [if_neg (fun h => by omega)]
theorem zleft_flat {f : Nat} (x : Ns (Sc f)) {n d : Int} (h : d < 1) : leftS (f + 1) x n d = -1 := by
  unfold leftS
  rw [okS_eq, decide_eq_false (by omega), if_neg (by simp)]
theorem zleft_unfit {f : Nat} (x : Ns (Sc f)) {n d : Int} (h : fitsS x = false) : leftS (f + 1) x n d = -1 := by
  unfold leftS
  rw [okS_eq, h, if_neg (by simp)]
theorem zleft_one {f : Nat} (x : Ns (Sc f)) {n d : Int} (h : fitsS x = true) (hk : x.kids.length = 0) (hn : 1 ≤ n) (hd : 1 ≤ d) : leftS (f + 1) x n d = n - 1 := by
  unfold leftS
  rw [okS_eq, h, decide_eq_true hd, nodesS_eq, List.eq_nil_of_length_eq_zero hk]
  rw [if_pos ⟨by simp, by simp; omega⟩]
  simp
theorem zleft_wide {f : Nat} (x : Ns (Sc f)) {n d : Int} (h : n - 1 < (x.kids.length : Int)) : leftS (f + 1) x n d = -1 := by
  unfold leftS
  have := nodesS_len f x.kids
  rw [nodesS_eq, if_neg (fun h => by omega)]
theorem zleft_all {f : Nat} (x : Ns (Sc f)) {n d m : Int} (h : fitsS x = true) (hd : 1 ≤ d) (ha : ((x.kids.take x.kids.length).all fun u => okS f u (d - 1)) = true) (hm : m = n - 1 - (sumS f x.kids x.kids.length : Int)) (h0 : 0 ≤ m) : leftS (f + 1) x n d = m := by
  unfold leftS
  rw [List.take_length] at ha
  have hs : sumS f x.kids x.kids.length = (x.kids.map (nodesS f)).sum := by unfold sumS; rw [List.take_length]
  rw [hs] at hm
  rw [okS_eq, h, decide_eq_true hd, ha, nodesS_eq, if_pos ⟨rfl, by omega⟩]
  omega
theorem zleft_stop {f : Nat} (x : Ns (Sc f)) {n d m : Int} {j : Nat} (hj : j < x.kids.length) (hm : m = n - 1 - (sumS f x.kids j : Int)) (h : leftS f x.kids[j] m (d - 1) < 0) : leftS (f + 1) x n d = -1 := by
  unfold leftS at h ⊢
  have h1 := sumS_step x.kids j hj
  have h2 := sumS_le x.kids (j + 1)
  by_cases hk : okS f x.kids[j] (d - 1) = true
  · by_cases hn : (nodesS f x.kids[j] : Int) ≤ m
    · rw [if_pos ⟨hk, hn⟩] at h
      omega
    · rw [nodesS_eq, if_neg (fun h => by omega)]
  · rw [okS_eq, zallS_stop hj (by simpa using hk), if_neg (by simp)]
theorem zleft_step {f : Nat} (x : Ns (Sc f)) {n d m : Int} {j : Nat} (hj : j < x.kids.length) (hm : m = n - 1 - (sumS f x.kids j : Int)) (ha : ((x.kids.take j).all fun u => okS f u (d - 1)) = true) (h : 0 ≤ leftS f x.kids[j] m (d - 1)) :
    leftS f x.kids[j] m (d - 1) = n - 1 - (sumS f x.kids (j + 1) : Int) ∧ ((x.kids.take (j + 1)).all fun u => okS f u (d - 1)) = true := by
  unfold leftS at h ⊢
  have h1 := sumS_step x.kids j hj
  by_cases hk : okS f x.kids[j] (d - 1) = true ∧ (nodesS f x.kids[j] : Int) ≤ m
  · rw [if_pos hk] at h ⊢
    exact ⟨by omega, zallS_step hj ha hk.1⟩
  · rw [if_neg hk] at h
    omega
theorem zleft_le {f : Nat} (x : Sc f) (n d : Int) (hn : -1 ≤ n) : -1 ≤ leftS f x n d ∧ leftS f x n d ≤ n := by
  unfold leftS
  split
  · rename_i h
    exact ⟨by omega, by omega⟩
  · exact ⟨by omega, hn⟩
theorem zleft_may {f : Nat} (x : Sc f) : decide (0 ≤ leftS f x 24 8) = mayS f x := by
  unfold leftS mayS
  by_cases h : okS f x 8 = true ∧ (nodesS f x : Int) ≤ 24
  · rw [if_pos h, h.1, decide_eq_true (by omega), decide_eq_true (by omega)]; rfl
  · rw [if_neg h, decide_eq_false (by omega)]
    cases hk : okS f x 8 with
    | false => rfl
    | true => rw [decide_eq_false (fun hn => h ⟨hk, by omega⟩)]; rfl
/-! What fits, by the kind. -/
theorem zfit_named {α : Type} {x : Ns α} (h : x.op = 2 ∨ x.op = 3 ∨ x.op = 4) : fitsS x = true ↔ nameS x.name = true ∧ x.from_ = 0 ∧ x.to_ = 0 ∧ x.kids.length = 0 := by
  have h1 : namedS x.op = true := by unfold namedS; exact decide_eq_true h
  have h2 : manyS x.op = false := by unfold manyS; exact decide_eq_false (by omega)
  rw [fits_iff, h1, if_pos rfl, if_neg (by omega : ¬ x.op = 5)]
  unfold kidsOk
  rw [h2, if_neg (by decide), if_neg (by omega : ¬ x.op = 8), decide_eq_true_eq, decide_eq_true_eq]
  exact ⟨fun h => ⟨h.2.1, h.2.2.1.1, h.2.2.1.2, h.2.2.2⟩, fun h => ⟨by omega, h.1, ⟨h.2.1, h.2.2.1⟩, h.2.2.2⟩⟩
theorem zfit_all {α : Type} {x : Ns α} (h : x.op = 1) : fitsS x = true ↔ x.name = [] ∧ x.from_ = 0 ∧ x.to_ = 0 ∧ x.kids.length = 0 := by
  rw [fits_iff, h]
  simp [namedS, manyS, kidsOk, and_assoc]
theorem zfit_time {α : Type} {x : Ns α} (h : x.op = 5) : fitsS x = true ↔ x.name = [] ∧ (0 ≤ x.from_ ∧ x.from_ ≤ x.to_ ∧ x.to_ ≤ 1099511627776) ∧ x.kids.length = 0 := by
  rw [fits_iff, h]
  simp [namedS, manyS, kidsOk, and_assoc]
theorem zfit_many {α : Type} {x : Ns α} (h : x.op = 6 ∨ x.op = 7) : fitsS x = true ↔ x.name = [] ∧ x.from_ = 0 ∧ x.to_ = 0 ∧ 2 ≤ x.kids.length := by
  rw [fits_iff]
  rcases h with h | h <;> rw [h] <;> simp [namedS, manyS, kidsOk, and_assoc]
theorem zfit_not {α : Type} {x : Ns α} (h : x.op = 8) : fitsS x = true ↔ x.name = [] ∧ x.from_ = 0 ∧ x.to_ = 0 ∧ x.kids.length = 1 := by
  rw [fits_iff, h]
  simp [namedS, manyS, kidsOk, and_assoc]
theorem zunfit_op {α : Type} {x : Ns α} (h : x.op < 1 ∨ 8 < x.op) : fitsS x = false := by
  cases hb : fitsS x with
  | false => rfl
  | true => have := ((fits_iff x).1 hb).1; omega
end
section
section
variable {P : Program} {ops : Array Oper} {Q : Exit → Act → World → Prop} {S : World → Prop} {md : Region.Mode} {fuel : Nat} {listed : Array Bool} {a : Act} {w : World}
theorem held_yes (i : Nat) {o : Oper} {v : Value} (hi : ops[i]? = some o) (hs : Region.noSelect ops = true) (hf : Region.free md ops listed i = true) (hr : (Region.ready md ops listed).contains i = true)
    (hQ : ∀ c a w, Q (.panic c) (a.put o.dst v) w → Q (.panic c) a w) (hw : Region.wanted o (yielded ops a.tmps) = true) (hS : S w) (hy : ∀ w, S w → (execOp a.eval o).run P w = .ok (.value v) w)
    (h : wpAnyH P md ops Q S fuel (listed.setIfInBounds i true) (a.put o.dst v) w) : wpAnyH P md ops Q S (fuel + 1) listed a w :=
  wpAnyH_take hi hs hf hr hQ (Or.inl ⟨hw, hy⟩) hS h
theorem held_no (i : Nat) {o : Oper} (hi : ops[i]? = some o) (hs : Region.noSelect ops = true) (hf : Region.free md ops listed i = true) (hr : (Region.ready md ops listed).contains i = true)
    (hQ : ∀ c a w, Q (.panic c) (a.put o.dst undef) w → Q (.panic c) a w) (hw : Region.wanted o (yielded ops a.tmps) = false) (hS : S w)
    (h : wpAnyH P md ops Q S fuel (listed.setIfInBounds i true) (a.put o.dst undef) w) : wpAnyH P md ops Q S (fuel + 1) listed a w :=
  wpAnyH_take hi hs hf hr hQ (Or.inr ⟨hw, rfl⟩) hS h
theorem held_one (i : Nat) {o : Oper} (hr : Region.ready md ops listed = [i]) (hi : ops[i]? = some o) (hw : Region.wanted o (yielded ops a.tmps) = true)
    (h : ∀ K : Act → World → Prop, Shut (∀ a w, S w → (S w → wpAnyH P md ops Q S fuel (listed.setIfInBounds i true) a w) → K a w) → Oper.wp P o a w K Q) : wpAnyH P md ops Q S (fuel + 1) listed a w :=
  wpAnyH_ready hr (by simp) (AllReadyH.cons hi (fun K hK => by rw [if_pos hw]; exact h K hK) AllReadyH.nil)
theorem held_two (i j : Nat) {o p : Oper} (hr : Region.ready md ops listed = [i, j]) (hi : ops[i]? = some o) (hj : ops[j]? = some p) (hw : Region.wanted o (yielded ops a.tmps) = true) (hv : Region.wanted p (yielded ops a.tmps) = true)
    (h : ∀ K : Act → World → Prop, Shut (∀ a w, S w → (S w → wpAnyH P md ops Q S fuel (listed.setIfInBounds i true) a w) → K a w) → Oper.wp P o a w K Q)
    (k : ∀ K : Act → World → Prop, Shut (∀ a w, S w → (S w → wpAnyH P md ops Q S fuel (listed.setIfInBounds j true) a w) → K a w) → Oper.wp P p a w K Q) : wpAnyH P md ops Q S (fuel + 1) listed a w :=
  wpAnyH_ready hr (by simp) (AllReadyH.cons hi (fun K hK => by rw [if_pos hw]; exact h K hK) (AllReadyH.cons hj (fun K hK => by rw [if_pos hv]; exact k K hK) AllReadyH.nil))
theorem held_three (i j l : Nat) {o p q : Oper} (hr : Region.ready md ops listed = [i, j, l]) (hi : ops[i]? = some o) (hj : ops[j]? = some p) (hl : ops[l]? = some q) (hw : Region.wanted o (yielded ops a.tmps) = true) (hv : Region.wanted p (yielded ops a.tmps) = true) (hu : Region.wanted q (yielded ops a.tmps) = true)
    (h : ∀ K : Act → World → Prop, Shut (∀ a w, S w → (S w → wpAnyH P md ops Q S fuel (listed.setIfInBounds i true) a w) → K a w) → Oper.wp P o a w K Q)
    (k : ∀ K : Act → World → Prop, Shut (∀ a w, S w → (S w → wpAnyH P md ops Q S fuel (listed.setIfInBounds j true) a w) → K a w) → Oper.wp P p a w K Q)
    (m : ∀ K : Act → World → Prop, Shut (∀ a w, S w → (S w → wpAnyH P md ops Q S fuel (listed.setIfInBounds l true) a w) → K a w) → Oper.wp P q a w K Q) : wpAnyH P md ops Q S (fuel + 1) listed a w :=
  wpAnyH_ready hr (by simp) (AllReadyH.cons hi (fun K hK => by rw [if_pos hw]; exact h K hK) (AllReadyH.cons hj (fun K hK => by rw [if_pos hv]; exact k K hK) (AllReadyH.cons hl (fun K hK => by rw [if_pos hu]; exact m K hK) AllReadyH.nil)))
theorem held_four (i j l r : Nat) {o p q s : Oper} (hr : Region.ready md ops listed = [i, j, l, r]) (hi : ops[i]? = some o) (hj : ops[j]? = some p) (hl : ops[l]? = some q) (hrr : ops[r]? = some s) (hw : Region.wanted o (yielded ops a.tmps) = true) (hv : Region.wanted p (yielded ops a.tmps) = true) (hu : Region.wanted q (yielded ops a.tmps) = true) (ht : Region.wanted s (yielded ops a.tmps) = true)
    (h : ∀ K : Act → World → Prop, Shut (∀ a w, S w → (S w → wpAnyH P md ops Q S fuel (listed.setIfInBounds i true) a w) → K a w) → Oper.wp P o a w K Q)
    (k : ∀ K : Act → World → Prop, Shut (∀ a w, S w → (S w → wpAnyH P md ops Q S fuel (listed.setIfInBounds j true) a w) → K a w) → Oper.wp P p a w K Q)
    (m : ∀ K : Act → World → Prop, Shut (∀ a w, S w → (S w → wpAnyH P md ops Q S fuel (listed.setIfInBounds l true) a w) → K a w) → Oper.wp P q a w K Q)
    (n : ∀ K : Act → World → Prop, Shut (∀ a w, S w → (S w → wpAnyH P md ops Q S fuel (listed.setIfInBounds r true) a w) → K a w) → Oper.wp P s a w K Q) : wpAnyH P md ops Q S (fuel + 1) listed a w :=
  wpAnyH_ready hr (by simp) (AllReadyH.cons hi (fun K hK => by rw [if_pos hw]; exact h K hK) (AllReadyH.cons hj (fun K hK => by rw [if_pos hv]; exact k K hK) (AllReadyH.cons hl (fun K hK => by rw [if_pos hu]; exact m K hK) (AllReadyH.cons hrr (fun K hK => by rw [if_pos ht]; exact n K hK) AllReadyH.nil))))
end
section
variable {P : Program} {ops : Array Oper} {Q : Exit → Act → World → Prop} {S : World → Prop} {md : Region.Mode} {fuel : Nat} {listed : Array Bool} {a : Act} {w : World}
theorem hyY (d : Option Nat) (i : Nat) {x1 : Op} {x2 : TypeId} {x3 : String} {x4 : Array Edge} {x5 : Option (Nat × Bool)} {v : Value} (hi : ops[i]? = some ⟨d, x1, x2, x3, x4, x5⟩) (hS : S w)
    (h : wpAnyH P md ops Q S fuel (listed.setIfInBounds i true) (a.put d v) w)
    (hs : Region.noSelect ops = true := by kernel_rfl) (hf : Region.free md ops listed i = true := by kernel_rfl) (hr : (Region.ready md ops listed).contains i = true := by kernel_rfl)
    (hQ : ∀ c a w, Q (.panic c) (a.put d v) w → Q (.panic c) a w := by exact fun _ _ _ h => h) (hw : Region.wanted ⟨d, x1, x2, x3, x4, x5⟩ (yielded ops a.tmps) = true := by rfl)
    (hy : ∀ w, S w → (execOp a.eval ⟨d, x1, x2, x3, x4, x5⟩).run P w = .ok (.value v) w := by (intro w hSw; (try dsimp only at hSw); go_simp; with_reducible rfl)) : wpAnyH P md ops Q S (fuel + 1) listed a w :=
  held_yes i hi hs hf hr hQ hw hS hy h
theorem hyN (d : Option Nat) (i : Nat) {x1 : Op} {x2 : TypeId} {x3 : String} {x4 : Array Edge} {x5 : Option (Nat × Bool)} (hi : ops[i]? = some ⟨d, x1, x2, x3, x4, x5⟩) (hS : S w)
    (h : wpAnyH P md ops Q S fuel (listed.setIfInBounds i true) (a.put d undef) w)
    (hs : Region.noSelect ops = true := by kernel_rfl) (hf : Region.free md ops listed i = true := by kernel_rfl) (hr : (Region.ready md ops listed).contains i = true := by kernel_rfl)
    (hQ : ∀ c a w, Q (.panic c) (a.put d undef) w → Q (.panic c) a w := by exact fun _ _ _ h => h) (hw : Region.wanted ⟨d, x1, x2, x3, x4, x5⟩ (yielded ops a.tmps) = false := by rfl) : wpAnyH P md ops Q S (fuel + 1) listed a w :=
  held_no i hi hs hf hr hQ hw hS h
theorem hyO (d : Option Nat) (i : Nat) {x1 : Op} {x2 : TypeId} {x3 : String} {x4 : Array Edge} {x5 : Option (Nat × Bool)} (hi : ops[i]? = some ⟨d, x1, x2, x3, x4, x5⟩)
    (h : ∀ K : Act → World → Prop, Shut (∀ a w, S w → (S w → wpAnyH P md ops Q S fuel (listed.setIfInBounds i true) a w) → K a w) → Oper.wp P ⟨d, x1, x2, x3, x4, x5⟩ a w K Q)
    (hr : Region.ready md ops listed = [i] := by kernel_rfl) (hw : Region.wanted ⟨d, x1, x2, x3, x4, x5⟩ (yielded ops a.tmps) = true := by rfl) : wpAnyH P md ops Q S (fuel + 1) listed a w :=
  held_one i hr hi hw h
end
end
section
open Go.RowKit
theorem zne_if (s : ByteArray) (l : List UInt8) (hs : s = ⟨l.toArray⟩) (h : ¬ l = []) : (s.toList != []) = true ∧ (s.toList != (⟨#[]⟩ : ByteArray).toList) = true ∧ (¬ s.toList = [] ∧ s.toList.isEmpty = false) := by
  have e : s.toList = l := by rw [hs, Lib.toList_data]
  rw [e]
  exact ⟨bne_iff_ne.2 h, bne_iff_ne.2 (by simpa using h), h, by simpa using h⟩
theorem zne_not (s : ByteArray) (hs : s = ⟨([] : List UInt8).toArray⟩) : (s.toList != []) = false ∧ (s.toList != (⟨#[]⟩ : ByteArray).toList) = false ∧ (s.toList = [] ∧ s.toList.isEmpty = true) := by
  subst hs
  exact ⟨by simp, by simp, by simp, by simp⟩
theorem zname_some {l : List UInt8} (h : nameS l = true) : ¬ l = [] := fun e => by
  have := ((name_iff l).1 h).1
  rw [e] at this
  simp at this
def LeftIh (S : Nat → Prop) (f : Nat) : Prop := ∀ (t : Sc f) (v : Value) (n d : Int) (w : World), -1 ≤ n → n ≤ 1000 → -1000 ≤ d → d ≤ 1000 → ZV w S f v t →
    Calls Tryz.prog 26 #[v, .int .i64 n, .int .i64 d] w fun e w' => e = .returned (.int .i64 (leftS f t n d)) ∧ Below w.heap.size w w'
set_option maxHeartbeats 4000000 in
theorem zleft_none (S : Nat → Prop) (f : Nat) (t : Ns (Sc f)) (v : Value) (n d : Int) (w : World) (hn : -1 ≤ n) (hn2 : n ≤ 1000) (hd : -1000 ≤ d) (hd2 : d ≤ 1000) (h : n < 1 ∨ d < 1 ∨ t.op < 1 ∨ 8 < t.op) (hv : ZV w S (f + 1) v t) :
    Calls Tryz.prog 26 #[v, .int .i64 n, .int .i64 d] w fun e w' => e = .returned (.int .i64 (leftS (f + 1) t n d)) ∧ Below w.heap.size w w' := by
  have hr : leftS (f + 1) t n d = -1 := by
    rcases h with h | h | h
    · exact zleft_low _ h
    · exact zleft_flat t h
    · exact zleft_unfit t (zunfit_op h)
  rw [hr]
  clear hr
  obtain ⟨c0, c1, c2, c3, c4, rfl, rfl, hk, rfl, hml, rfl, hfr, rfl, hto, hks⟩ := hv
  obtain ⟨A3, cap3, e3, hl3, hm3⟩ := hks.form
  subst e3
  clear hks
  generalize t.op = k at *
  generalize t.from_ = fr at *
  generalize t.to_ = to_ at *
  generalize t.name = l at *
  generalize t.kids.length = kl at *
  unfold strV at *
  generalize (⟨l.toArray⟩ : ByteArray) = s at *
  have B0 := (Below.refl w.heap.size w).alloc (Nat.le_refl _) (.cells #[.int .i64 k, .string s, .int .i64 fr, .int .i64 to_, .slice A3 kl cap3] 24)
  by_cases h1 : n < 1
  · have E := decide_eq_true h1
    go_enter Tryz.func26, Tryz.ntmps26
    go_wp2_with fail
    go_ret
    exact ⟨rfl, B0⟩
  have E1 : decide (n < 1) = false := decide_eq_false h1
  by_cases h2 : d < 1
  · have E := decide_eq_true h2
    go_enter Tryz.func26, Tryz.ntmps26
    go_wp2_with fail
    go_ret
    exact ⟨rfl, B0⟩
  have E2 : decide (d < 1) = false := decide_eq_false h2
  by_cases h3 : k < 1
  · have E := decide_eq_true h3
    go_enter Tryz.func26, Tryz.ntmps26
    go_wp2_with fail
    go_ret
    exact ⟨rfl, B0⟩
  have E3 : decide (k < 1) = false := decide_eq_false h3
  have h4 : 8 < k := by omega
  have E := decide_eq_true h4
  go_enter Tryz.func26, Tryz.ntmps26
  go_wp2_with fail
  go_ret
  exact ⟨rfl, B0⟩
end
section
open Go.RowKit
set_option maxHeartbeats 8000000 in
theorem zleft_named (S : Nat → Prop) (f : Nat) (ih : LeftIh S f) (t : Ns (Sc f)) (v : Value) (n d : Int) (w : World) (hn2 : n ≤ 1000) (hd2 : d ≤ 1000) (h1 : 1 ≤ n) (h2 : 1 ≤ d) (hop : t.op = 2 ∨ t.op = 3 ∨ t.op = 4) (hv : ZV w S (f + 1) v t) :
    Calls Tryz.prog 26 #[v, .int .i64 n, .int .i64 d] w fun e w' => e = .returned (.int .i64 (leftS (f + 1) t n d)) ∧ Below w.heap.size w w' := by
  obtain ⟨c0, c1, c2, c3, c4, rfl, rfl, hk, rfl, hml, rfl, hfr, rfl, hto, hks⟩ := hv
  obtain ⟨A3, cap3, e3, hl3, hm3⟩ := hks.form
  subst e3
  obtain ⟨r, hr⟩ : ∃ r, r = leftS (f + 1) t n d := ⟨_, rfl⟩
  rw [← hr]
  have HU : Hid (¬ (nameS t.name = true ∧ t.from_ = 0 ∧ t.to_ = 0 ∧ t.kids.length = 0) → r = -1) := fun h => hr.trans (zleft_unfit t (by
    cases hb : fitsS t with
    | false => rfl
    | true => exact absurd ((zfit_named hop).1 hb) h))
  have HY : Hid (nameS t.name = true ∧ t.from_ = 0 ∧ t.to_ = 0 ∧ t.kids.length = 0 → r = n - 1) := fun h => hr.trans (zleft_one t ((zfit_named hop).2 h) h.2.2.2 h1 h2)
  clear hr
  have HNM : Hid (∀ W : World, Calls Tryz.prog 41 #[.int .i64 t.op] W fun e w' => e = .returned (.bool true) ∧ w' = W) := fun W => by
    have := znamed_any t.op W
    rwa [show namedS t.op = true from by unfold namedS; exact decide_eq_true hop] at this
  have HMM : Hid (∀ W : World, Calls Tryz.prog 43 #[.int .i64 t.op] W fun e w' => e = .returned (.bool false) ∧ w' = W) := fun W => by
    have := zmany_any t.op W
    rwa [show manyS t.op = false from by unfold manyS; exact decide_eq_false (by omega)] at this
  have HNA := Lib.hid (fun W : World => rname_any t.name hml W)
  generalize t.op = k at *
  generalize t.from_ = fr at *
  generalize t.to_ = to_ at *
  generalize t.name = l at *
  generalize t.kids = ks at *
  clear t
  have hlen : ks.length ≤ 9223372036854775807 := by unfold maxLen at hm3; omega
  have hlz : ((⟨l.toArray⟩ : ByteArray).size : Int) = (l.length : Int) := rfl
  have W1 : wrap64 (n - 1) = n - 1 := IntWalk.wrap64_in _ (by omega)
  have W2 : wrap64 (d - 1) = d - 1 := IntWalk.wrap64_in _ (by omega)
  have I1 : IntKind.i64.wrap (n - 1) = n - 1 := by rw [IntKind.wrap_i64]; omega
  have I2 : IntKind.i64.wrap (d - 1) = d - 1 := by rw [IntKind.wrap_i64]; omega
  have HM2 := Lib.hid (zne_if ⟨l.toArray⟩ l rfl)
  have HM : Hid (l = [] → ((⟨l.toArray⟩ : ByteArray).toList != []) = false ∧ ((⟨l.toArray⟩ : ByteArray).toList != (⟨#[]⟩ : ByteArray).toList) = false ∧ (⟨l.toArray⟩ : ByteArray).toList = [] ∧ (⟨l.toArray⟩ : ByteArray).toList.isEmpty = true) := fun h => zne_not ⟨l.toArray⟩ (by rw [h])
  unfold strV at *
  obtain ⟨s, hs⟩ : ∃ s : ByteArray, s = ⟨l.toArray⟩ := ⟨_, rfl⟩
  rw [← hs] at HNA HM HM2 ⊢
  clear hs hlz hml
  obtain ⟨kl, hkl⟩ : ∃ kl, kl = ks.length := ⟨_, rfl⟩
  rw [← hkl] at hks hl3 hlen HU HY ⊢
  have HKL := Lib.hid hkl
  clear hkl
  have kb := KB.new w 24 #[.int .i64 k, .string s, .int .i64 fr, .int .i64 to_, .slice A3 kl cap3]
  have B0 := (Below.refl w.heap.size w).alloc (Nat.le_refl _) (.cells #[.int .i64 k, .string s, .int .i64 fr, .int .i64 to_, .slice A3 kl cap3] 24)
  have B1 := Below_drawn B0 1
  have kc := kb.below (Below_drawn (Below.refl _ _) 1) kb.lt
  have E1 : decide (n < 1) = false := decide_eq_false (by omega)
  have E2 : decide (d < 1) = false := decide_eq_false (by omega)
  have E3 : decide (k < 1) = false := decide_eq_false (by omega)
  have E4 : decide (8 < k) = false := decide_eq_false (by omega)
  have E5 : (k == 5) = false := beq_eq_false_iff_ne.2 (by omega)
  have E6 : (k == 8) = false := beq_eq_false_iff_ne.2 (by omega)
  have E7 : (k != 8) = true := bne_iff_ne.2 (by omega)
  by_cases h5 : l = []
  · obtain rfl := HU.out (fun h => zname_some h.1 h5)
    obtain ⟨E8, E8b⟩ := (HM.out h5).2.2
    clear HU HM HM2 HY
    go_enter Tryz.func26, Tryz.ntmps26
    go_wp2_with fail
    rename_i KK hKK
    have HKK := Lib.hid hKK
    clear hKK
    refine wp_region_held_drew (S := (fun W => W.cell? ⟨w.heap.size, 0, none⟩ = some (.int .i64 k) ∧ W.cell? ⟨w.heap.size, 1, none⟩ = some (.string s))) (by kernel_rfl) ⟨kb.cell 0, kb.cell 1⟩ (fun hHeld => ?_)
    refine hyY (some 26) 0 rfl hHeld ?_; go_frame
    refine hyY (some 27) 1 rfl hHeld ?_; go_frame
    refine hyY (some 29) 3 rfl hHeld ?_; go_frame
    refine hyY (some 30) 4 rfl hHeld ?_; go_frame
    refine hyY (some 31) 5 rfl hHeld ?_; go_frame
    refine hyO (some 28) 2 rfl (fun K hK => ?_)
    go_simp
    go_at_call 41
    refine (HNM.out _).mono ?_
    rintro e w5 ⟨rfl, rfl⟩
    go_wp2_with fail
    refine hK.out _ _ ?_ (fun hH2 => ?_)
    · exact ⟨kb.cell 0, kb.cell 1⟩
    clear hHeld hK K; have hHeld := hH2; clear hH2; try go_frame
    refine hyY (some 32) 6 rfl hHeld ?_; go_frame
    refine hyY (some 33) 7 rfl hHeld ?_; go_frame
    refine hyN (some 34) 8 rfl hHeld ?_; go_frame
    refine hyN (some 35) 9 rfl hHeld ?_; go_frame
    refine hyN (some 36) 10 rfl hHeld ?_; go_frame
    refine hyN (some 37) 11 rfl hHeld ?_; go_frame
    refine hyN (some 38) 12 rfl hHeld ?_; go_frame
    refine hyN (some 39) 13 rfl hHeld ?_; go_frame
    refine hyN (some 40) 14 rfl hHeld ?_; go_frame
    refine hyN (some 41) 15 rfl hHeld ?_; go_frame
    refine hyN (some 42) 16 rfl hHeld ?_; go_frame
    refine hyY (some 43) 17 rfl hHeld ?_; go_frame
    refine wpAnyH_done (by kernel_rfl) ?_ _
    have hKK := HKK.out
    go_wp2_with fail
    go_ret
    exact ⟨rfl, B1⟩
  obtain ⟨E8, E8b⟩ := (HM2.out h5).2.2
  clear HM HM2
  generalize hnn : nameS l = nn at *
  cases nn with
  | false =>
    obtain rfl := HU.out (fun h => by cases h.1)
    clear HU HY
    go_enter Tryz.func26, Tryz.ntmps26
    go_wp2_with fail
    rename_i KK hKK
    have HKK := Lib.hid hKK
    clear hKK
    refine wp_region_held_drew (S := (fun W => W.cell? ⟨w.heap.size, 0, none⟩ = some (.int .i64 k) ∧ W.cell? ⟨w.heap.size, 1, none⟩ = some (.string s))) (by kernel_rfl) ⟨kb.cell 0, kb.cell 1⟩ (fun hHeld => ?_)
    refine hyY (some 26) 0 rfl hHeld ?_; go_frame
    refine hyY (some 27) 1 rfl hHeld ?_; go_frame
    refine hyY (some 29) 3 rfl hHeld ?_; go_frame
    refine hyY (some 30) 4 rfl hHeld ?_; go_frame
    refine hyY (some 31) 5 rfl hHeld ?_; go_frame
    refine hyO (some 28) 2 rfl (fun K hK => ?_)
    go_simp
    go_at_call 41
    refine (HNM.out _).mono ?_
    rintro e w5 ⟨rfl, rfl⟩
    go_wp2_with fail
    refine hK.out _ _ ?_ (fun hH2 => ?_)
    · exact ⟨kb.cell 0, kb.cell 1⟩
    clear hHeld hK K; have hHeld := hH2; clear hH2; try go_frame
    refine hyY (some 32) 6 rfl hHeld ?_; go_frame
    refine hyY (some 33) 7 rfl hHeld ?_; go_frame
    refine hyY (some 34) 8 rfl hHeld ?_; go_frame
    refine hyY (some 35) 9 rfl hHeld ?_; go_frame
    refine hyO (some 36) 10 rfl (fun K hK => ?_)
    go_simp
    go_at_call 41
    refine (HNM.out _).mono ?_
    rintro e w5 ⟨rfl, rfl⟩
    go_wp2_with fail
    refine hK.out _ _ ?_ (fun hH2 => ?_)
    · exact ⟨kb.cell 0, kb.cell 1⟩
    clear hHeld hK K; have hHeld := hH2; clear hH2; try go_frame
    refine hyY (some 37) 11 rfl hHeld ?_; go_frame
    refine hyY (some 38) 12 rfl hHeld ?_; go_frame
    refine hyY (some 39) 13 rfl hHeld ?_; go_frame
    refine hyO (some 40) 14 rfl (fun K hK => ?_)
    go_simp
    go_at_call 42
    refine (HNA.out _).mono ?_
    rintro e w5 ⟨rfl, rfl⟩
    go_wp2_with fail
    refine hK.out _ _ ?_ (fun hH2 => ?_)
    · exact ⟨kb.cell 0, kb.cell 1⟩
    clear hHeld hK K; have hHeld := hH2; clear hH2; try go_frame
    refine hyY (some 41) 15 rfl hHeld ?_; go_frame
    refine hyY (some 42) 16 rfl hHeld ?_; go_frame
    refine hyY (some 43) 17 rfl hHeld ?_; go_frame
    refine wpAnyH_done (by kernel_rfl) ?_ _
    have hKK := HKK.out
    go_wp2_with fail
    go_ret
    exact ⟨rfl, B1⟩
  | true =>
    go_enter Tryz.func26, Tryz.ntmps26
    go_wp2_with fail
    rename_i KK hKK
    have HKK := Lib.hid hKK
    clear hKK
    refine wp_region_held_drew (S := (fun W => W.cell? ⟨w.heap.size, 0, none⟩ = some (.int .i64 k) ∧ W.cell? ⟨w.heap.size, 1, none⟩ = some (.string s))) (by kernel_rfl) ⟨kb.cell 0, kb.cell 1⟩ (fun hHeld => ?_)
    refine hyY (some 26) 0 rfl hHeld ?_; go_frame
    refine hyY (some 27) 1 rfl hHeld ?_; go_frame
    refine hyY (some 29) 3 rfl hHeld ?_; go_frame
    refine hyY (some 30) 4 rfl hHeld ?_; go_frame
    refine hyY (some 31) 5 rfl hHeld ?_; go_frame
    refine hyO (some 28) 2 rfl (fun K hK => ?_)
    go_simp
    go_at_call 41
    refine (HNM.out _).mono ?_
    rintro e w5 ⟨rfl, rfl⟩
    go_wp2_with fail
    refine hK.out _ _ ?_ (fun hH2 => ?_)
    · exact ⟨kb.cell 0, kb.cell 1⟩
    clear hHeld hK K; have hHeld := hH2; clear hH2; try go_frame
    refine hyY (some 32) 6 rfl hHeld ?_; go_frame
    refine hyY (some 33) 7 rfl hHeld ?_; go_frame
    refine hyY (some 34) 8 rfl hHeld ?_; go_frame
    refine hyY (some 35) 9 rfl hHeld ?_; go_frame
    refine hyO (some 36) 10 rfl (fun K hK => ?_)
    go_simp
    go_at_call 41
    refine (HNM.out _).mono ?_
    rintro e w5 ⟨rfl, rfl⟩
    go_wp2_with fail
    refine hK.out _ _ ?_ (fun hH2 => ?_)
    · exact ⟨kb.cell 0, kb.cell 1⟩
    clear hHeld hK K; have hHeld := hH2; clear hH2; try go_frame
    refine hyY (some 37) 11 rfl hHeld ?_; go_frame
    refine hyY (some 38) 12 rfl hHeld ?_; go_frame
    refine hyY (some 39) 13 rfl hHeld ?_; go_frame
    refine hyO (some 40) 14 rfl (fun K hK => ?_)
    go_simp
    go_at_call 42
    refine (HNA.out _).mono ?_
    rintro e w5 ⟨rfl, rfl⟩
    go_wp2_with fail
    refine hK.out _ _ ?_ (fun hH2 => ?_)
    · exact ⟨kb.cell 0, kb.cell 1⟩
    clear hHeld hK K; have hHeld := hH2; clear hH2; try go_frame
    refine hyY (some 41) 15 rfl hHeld ?_; go_frame
    refine hyY (some 42) 16 rfl hHeld ?_; go_frame
    refine hyY (some 43) 17 rfl hHeld ?_; go_frame
    refine wpAnyH_done (by kernel_rfl) ?_ _
    have hKK := HKK.out
    by_cases a1 : fr = 0
    case neg =>
      have E9 : (fr != 0) = true := bne_iff_ne.2 a1
      obtain rfl := HU.out (by intro h; exact a1 h.2.1)
      go_wp2_with (go_at_call 43; refine (HMM.out _).mono ?_; rintro e wq ⟨rfl, rfl⟩)
      go_ret
      exact ⟨rfl, B1⟩
    subst a1
    by_cases a2 : to_ = 0
    case neg =>
      have E10 : (to_ != 0) = true := bne_iff_ne.2 a2
      obtain rfl := HU.out (by intro h; exact a2 h.2.2.1)
      go_wp2_with (go_at_call 43; refine (HMM.out _).mono ?_; rintro e wq ⟨rfl, rfl⟩)
      go_ret
      exact ⟨rfl, B1⟩
    subst a2
    by_cases a4 : kl = 0
    case neg =>
      have E12 : decide ((0 : Int) < (kl : Int)) = true := decide_eq_true (by omega)
      have E13 : decide (0 < kl) = true := decide_eq_true (by omega)
      obtain rfl := HU.out (by intro h; exact a4 h.2.2.2)
      go_wp2_with (go_at_call 43; refine (HMM.out _).mono ?_; rintro e wq ⟨rfl, rfl⟩)
      go_ret
      exact ⟨rfl, B1⟩
    subst a4
    obtain rfl := HY.out ⟨by simp, rfl, rfl, rfl⟩
    have E14 : decide (n - 1 < 0) = false := decide_eq_false (by omega)
    go_wp2_with (go_at_call 43; refine (HMM.out _).mono ?_; rintro e wq ⟨rfl, rfl⟩)
    go_loopw [1, 7] (fun mv iv wr => mv = .int .i64 (n - 1) ∧ iv = .int .i64 0 ∧ KB wr w.heap.size 24 #[.int .i64 k, .string s, .int .i64 0, .int .i64 0, .slice A3 0 cap3] ∧ Below w.heap.size w wr) (fun _ iv _ => 0)
    case atStart => exact ⟨rfl, rfl, kc, B1⟩
    case round =>
      obtain ⟨rfl, rfl, K, B⟩ := hrel
      have q4 : wr.cell? ⟨w.heap.size, 4, none⟩ = some (.slice A3 0 cap3) := K.cell 4
      go_wp2_with fail
      go_ret
      exact ⟨rfl, B⟩
end
end Go.Proofs.YtjecjlhofnnnpaaGreatDoor
