/-
  RvE: The program's actWord (layer 17), over the loaded program: its contract. No condition.
  Held: A region that draws its order, operation by operation, over any program: what only reads is taken first, whether its guard lets it be done or not; what is to be done next alone is done. No condition.
  RuP0: Plain mathematics of layer 17 (rule): where the first rule of a class stands; which error Check tells. No program. No condition.
-/
import Derived.Test.YthindhlogkhclaaDoorPm05
import Derived.Test.YthindhlogkhclaaDoorPm04
import Derived.Deep.RegionHeld3
import Derived.Maps.RangeWalk
import Derived.Tactics
import Derived.KernelRfl
set_option linter.unusedVariables false
set_option maxRecDepth 100000
namespace Go.Proofs.YthindhlogkhclaaDoor
section
open Go.RowKit
def actW (n : Int) : List UInt8 := if n = 1 then [100, 101, 115, 116, 114, 111, 121] else if n = 2 then [114, 101, 118, 105, 101, 119] else if n = 3 then [107, 101, 101, 112] else []
theorem actW_in {n : Int} (h : 1 ≤ n ∧ n ≤ 3) : actW n = actS n ∧ actW n ≠ [] := by
  unfold actW actS
  rcases (show n = 1 ∨ n = 2 ∨ n = 3 by omega) with rfl | rfl | rfl <;> exact ⟨by decide, by decide⟩
theorem actW_out {n : Int} (h : ¬ (1 ≤ n ∧ n ≤ 3)) : actW n = [] := by
  unfold actW
  rw [if_neg (by omega), if_neg (by omega), if_neg (by omega)]
theorem actword_any (n : Int) (w : World) : Calls Tryd.prog 42 #[.int .i64 n] w fun e w' => e = .returned (strV (actW n)) ∧ w = w' := by
  by_cases h1 : n = 1
  · subst h1
    go_enter Tryd.func42, Tryd.ntmps42
    go_wp2
    go_ret
    exact ⟨rfl, rfl⟩
  by_cases h2 : n = 2
  · subst h2
    go_enter Tryd.func42, Tryd.ntmps42
    go_wp2
    go_ret
    exact ⟨rfl, rfl⟩
  by_cases h3 : n = 3
  · subst h3
    go_enter Tryd.func42, Tryd.ntmps42
    go_wp2
    go_ret
    exact ⟨rfl, rfl⟩
  rw [actW_out (by omega)]
  have E1 : (n == 1) = false := beq_eq_false_iff_ne.2 h1
  have E2 : (n == 2) = false := beq_eq_false_iff_ne.2 h2
  have E3 : (n == 3) = false := beq_eq_false_iff_ne.2 h3
  go_enter Tryd.func42, Tryd.ntmps42
  go_wp2
  go_ret
  exact ⟨rfl, rfl⟩
end
section
section
variable {P : Program} {ops : Array Oper} {Q : Exit → Act → World → Prop} {S : World → Prop} {md : Region.Mode} {fuel : Nat} {listed : Array Bool} {a : Act} {w : World}
theorem held_yes (i : Nat) {o : Oper} {v : Value} (hi : ops[i]? = some o) (hs : Region.noSelect ops = true) (hf : Region.free md ops listed i = true) (hr : (Region.ready md ops listed).contains i = true)
    (hQ : ∀ c a w, Q (.panic c) (a.put o.dst v) w → Q (.panic c) a w) (hw : Region.wanted o (yielded ops a.tmps) = true) (hS : S w) (hy : ∀ w, S w → (execOp a.eval o).run P w = .ok (.value v) w)
    (h : wpAnyH P md ops Q S fuel (listed.setIfInBounds i true) (a.put o.dst v) w) : wpAnyH P md ops Q S (fuel + 1) listed a w :=
  wpAnyH_take hi hs hf hr hQ (Or.inl ⟨hw, hy⟩) hS h
theorem held_no (i : Nat) {o : Oper} (hi : ops[i]? = some o) (hs : Region.noSelect ops = true) (hf : Region.free md ops listed i = true) (hr : (Region.ready md ops listed).contains i = true)
    (hQ : ∀ c a w, Q (.panic c) (a.put o.dst undef) w → Q (.panic c) a w) (hw : Region.wanted o (yielded ops a.tmps) = false) (hS : S w)
    (h : wpAnyH P md ops Q S fuel (listed.setIfInBounds i true) (a.put o.dst undef) w) : wpAnyH P md ops Q S (fuel + 1) listed a w :=
  wpAnyH_take hi hs hf hr hQ (Or.inr ⟨hw, rfl⟩) hS h
theorem held_one (i : Nat) {o : Oper} (hr : Region.ready md ops listed = [i]) (hi : ops[i]? = some o) (hw : Region.wanted o (yielded ops a.tmps) = true)
    (h : ∀ K : Act → World → Prop, Shut (∀ a w, S w → (S w → wpAnyH P md ops Q S fuel (listed.setIfInBounds i true) a w) → K a w) → Oper.wp P o a w K Q) : wpAnyH P md ops Q S (fuel + 1) listed a w :=
  wpAnyH_ready hr (by simp) (AllReadyH.cons hi (fun K hK => by rw [if_pos hw]; exact h K hK) AllReadyH.nil)
theorem held_two (i j : Nat) {o p : Oper} (hr : Region.ready md ops listed = [i, j]) (hi : ops[i]? = some o) (hj : ops[j]? = some p) (hw : Region.wanted o (yielded ops a.tmps) = true) (hv : Region.wanted p (yielded ops a.tmps) = true)
    (h : ∀ K : Act → World → Prop, Shut (∀ a w, S w → (S w → wpAnyH P md ops Q S fuel (listed.setIfInBounds i true) a w) → K a w) → Oper.wp P o a w K Q)
    (k : ∀ K : Act → World → Prop, Shut (∀ a w, S w → (S w → wpAnyH P md ops Q S fuel (listed.setIfInBounds j true) a w) → K a w) → Oper.wp P p a w K Q) : wpAnyH P md ops Q S (fuel + 1) listed a w :=
  wpAnyH_ready hr (by simp) (AllReadyH.cons hi (fun K hK => by rw [if_pos hw]; exact h K hK) (AllReadyH.cons hj (fun K hK => by rw [if_pos hv]; exact k K hK) AllReadyH.nil))
theorem held_three (i j l : Nat) {o p q : Oper} (hr : Region.ready md ops listed = [i, j, l]) (hi : ops[i]? = some o) (hj : ops[j]? = some p) (hl : ops[l]? = some q) (hw : Region.wanted o (yielded ops a.tmps) = true) (hv : Region.wanted p (yielded ops a.tmps) = true) (hu : Region.wanted q (yielded ops a.tmps) = true)
    (h : ∀ K : Act → World → Prop, Shut (∀ a w, S w → (S w → wpAnyH P md ops Q S fuel (listed.setIfInBounds i true) a w) → K a w) → Oper.wp P o a w K Q)
    (k : ∀ K : Act → World → Prop, Shut (∀ a w, S w → (S w → wpAnyH P md ops Q S fuel (listed.setIfInBounds j true) a w) → K a w) → Oper.wp P p a w K Q)
    (m : ∀ K : Act → World → Prop, Shut (∀ a w, S w → (S w → wpAnyH P md ops Q S fuel (listed.setIfInBounds l true) a w) → K a w) → Oper.wp P q a w K Q) : wpAnyH P md ops Q S (fuel + 1) listed a w :=
  wpAnyH_ready hr (by simp) (AllReadyH.cons hi (fun K hK => by rw [if_pos hw]; exact h K hK) (AllReadyH.cons hj (fun K hK => by rw [if_pos hv]; exact k K hK) (AllReadyH.cons hl (fun K hK => by rw [if_pos hu]; exact m K hK) AllReadyH.nil)))
end
section
variable {P : Program} {ops : Array Oper} {Q : Exit → Act → World → Prop} {S : World → Prop} {md : Region.Mode} {fuel : Nat} {listed : Array Bool} {a : Act} {w : World}
theorem hyY (d : Option Nat) (i : Nat) {x1 : Op} {x2 : TypeId} {x3 : String} {x4 : Array Edge} {x5 : Option (Nat × Bool)} {v : Value} (hi : ops[i]? = some ⟨d, x1, x2, x3, x4, x5⟩) (hS : S w)
    (h : wpAnyH P md ops Q S fuel (listed.setIfInBounds i true) (a.put d v) w)
    (hs : Region.noSelect ops = true := by kernel_rfl) (hf : Region.free md ops listed i = true := by kernel_rfl) (hr : (Region.ready md ops listed).contains i = true := by kernel_rfl)
    (hQ : ∀ c a w, Q (.panic c) (a.put d v) w → Q (.panic c) a w := by exact fun _ _ _ h => h) (hw : Region.wanted ⟨d, x1, x2, x3, x4, x5⟩ (yielded ops a.tmps) = true := by rfl)
    (hy : ∀ w, S w → (execOp a.eval ⟨d, x1, x2, x3, x4, x5⟩).run P w = .ok (.value v) w := by (intro w hSw; (try dsimp only at hSw); go_simp; with_reducible rfl)) : wpAnyH P md ops Q S (fuel + 1) listed a w :=
  held_yes i hi hs hf hr hQ hw hS hy h
theorem hyN (d : Option Nat) (i : Nat) {x1 : Op} {x2 : TypeId} {x3 : String} {x4 : Array Edge} {x5 : Option (Nat × Bool)} (hi : ops[i]? = some ⟨d, x1, x2, x3, x4, x5⟩) (hS : S w)
    (h : wpAnyH P md ops Q S fuel (listed.setIfInBounds i true) (a.put d undef) w)
    (hs : Region.noSelect ops = true := by kernel_rfl) (hf : Region.free md ops listed i = true := by kernel_rfl) (hr : (Region.ready md ops listed).contains i = true := by kernel_rfl)
    (hQ : ∀ c a w, Q (.panic c) (a.put d undef) w → Q (.panic c) a w := by exact fun _ _ _ h => h) (hw : Region.wanted ⟨d, x1, x2, x3, x4, x5⟩ (yielded ops a.tmps) = false := by rfl) : wpAnyH P md ops Q S (fuel + 1) listed a w :=
  held_no i hi hs hf hr hQ hw hS h
theorem hyO (d : Option Nat) (i : Nat) {x1 : Op} {x2 : TypeId} {x3 : String} {x4 : Array Edge} {x5 : Option (Nat × Bool)} (hi : ops[i]? = some ⟨d, x1, x2, x3, x4, x5⟩)
    (h : ∀ K : Act → World → Prop, Shut (∀ a w, S w → (S w → wpAnyH P md ops Q S fuel (listed.setIfInBounds i true) a w) → K a w) → Oper.wp P ⟨d, x1, x2, x3, x4, x5⟩ a w K Q)
    (hr : Region.ready md ops listed = [i] := by kernel_rfl) (hw : Region.wanted ⟨d, x1, x2, x3, x4, x5⟩ (yielded ops a.tmps) = true := by rfl) : wpAnyH P md ops Q S (fuel + 1) listed a w :=
  held_one i hr hi hw h
end
end
section
def placeR (f : Nat) (l : List (Rl f)) (c : List UInt8) : Int := match l.findIdx? (fun r => decide (r.cls = c)) with | some i => (i : Int) | none => -1
theorem place_none {f : Nat} {l : List (Rl f)} {c : List UInt8} (h : ∀ (i : Nat) (hi : i < l.length), l[i].cls ≠ c) : placeR f l c = -1 := by
  unfold placeR
  have : l.findIdx? (fun r => decide (r.cls = c)) = none := by
    rw [List.findIdx?_eq_none_iff]
    intro r hr
    obtain ⟨i, hi, e⟩ := List.mem_iff_getElem.1 hr
    rw [← e]
    exact decide_eq_false (h i hi)
  rw [this]
theorem place_some {f : Nat} {l : List (Rl f)} {c : List UInt8} {j : Nat} (hj : j < l.length) (h1 : ∀ (i : Nat) (hi : i < l.length), i < j → l[i].cls ≠ c) (h2 : l[j].cls = c) : placeR f l c = (j : Int) := by
  unfold placeR
  have : l.findIdx? (fun r => decide (r.cls = c)) = some j := by
    rw [List.findIdx?_eq_some_iff_getElem]
    exact ⟨hj, decide_eq_true h2, fun i hi => by simpa using h1 i (by omega) hi⟩
  rw [this]
theorem place_is (f : Nat) (l : List (Rl f)) (c : List UInt8) : (placeR f l c = -1 ∧ ∀ (i : Nat) (hi : i < l.length), l[i].cls ≠ c) ∨ ∃ (j : Nat) (hj : j < l.length), placeR f l c = (j : Int) ∧ l[j].cls = c ∧ ∀ (i : Nat) (hi : i < l.length), i < j → l[i].cls ≠ c := by
  unfold placeR
  cases hq : l.findIdx? (fun r => decide (r.cls = c)) with
  | none =>
    rw [List.findIdx?_eq_none_iff] at hq
    exact .inl ⟨rfl, fun i hi => of_decide_eq_false (hq l[i] (List.getElem_mem hi))⟩
  | some j =>
    rw [List.findIdx?_eq_some_iff_getElem] at hq
    obtain ⟨hj, h1, h2⟩ := hq
    exact .inr ⟨j, hj, rfl, of_decide_eq_true h1, fun i hi hlt => by simpa using h2 i hlt⟩
def dupR (f : Nat) (l : List (Rl f)) : Prop := ∃ (i k : Nat) (hi : i < l.length) (hk : k < i), l[k].cls = l[i].cls
theorem dup_nodup (f : Nat) (l : List (Rl f)) : (l.map (·.cls)).Nodup ↔ ¬ dupR f l := by
  rw [List.nodup_iff_pairwise_ne, List.pairwise_iff_getElem]
  constructor
  · rintro h ⟨i, k, hi, hk, e⟩
    have := h k i (by simp; omega) (by simpa using hi) hk
    simp at this
    exact this e
  · intro h i j hi hj hij e
    simp at hi hj e
    exact h ⟨j, i, hj, hij, e⟩
theorem check_many {f : Nat} {l : List (Rl f)} (h : 12 < l.length) : checkR f l = 4 := by unfold checkR; rw [if_pos h]
theorem check_bad {f : Nat} {l : List (Rl f)} (h : ¬ 12 < l.length) {j : Nat} (hj : j < l.length) (hb : goodR f l[j] = false) : checkR f l = 1 := by
  unfold checkR
  have : l.all (goodR f) = false := by
    cases hq : l.all (goodR f) with
    | false => rfl
    | true =>
      have := List.all_eq_true.1 hq l[j] (List.getElem_mem hj)
      rw [hb] at this
      cases this
  rw [if_neg h, if_pos this]
theorem check_dup {f : Nat} {l : List (Rl f)} (h : ¬ 12 < l.length) (hg : ∀ (j : Nat) (hj : j < l.length), goodR f l[j] = true) (hd : dupR f l) : checkR f l = 6 := by
  unfold checkR
  have : l.all (goodR f) = true := List.all_eq_true.2 fun r hr => by
    obtain ⟨i, hi, e⟩ := List.mem_iff_getElem.1 hr
    rw [← e]
    exact hg i hi
  rw [if_neg h, this, if_neg (by decide), if_neg (fun hn => (dup_nodup f l).1 hn hd)]
theorem check_ok {f : Nat} {l : List (Rl f)} (h : ¬ 12 < l.length) (hg : ∀ (j : Nat) (hj : j < l.length), goodR f l[j] = true) (hd : ¬ dupR f l) : checkR f l = 0 := by
  unfold checkR
  have : l.all (goodR f) = true := List.all_eq_true.2 fun r hr => by
    obtain ⟨i, hi, e⟩ := List.mem_iff_getElem.1 hr
    rw [← e]
    exact hg i hi
  rw [if_neg h, this, if_neg (by decide), if_pos ((dup_nodup f l).2 hd)]
theorem check_zero {f : Nat} {l : List (Rl f)} (h : checkR f l = 0) : ¬ 12 < l.length ∧ l.all (goodR f) = true ∧ (l.map (·.cls)).Nodup := by
  unfold checkR at h
  by_cases h1 : 12 < l.length
  · rw [if_pos h1] at h; omega
  · rw [if_neg h1] at h
    by_cases h2 : l.all (goodR f) = false
    · rw [if_pos h2] at h; omega
    · rw [if_neg h2] at h
      by_cases h3 : (l.map (·.cls)).Nodup
      · exact ⟨h1, by simpa using h2, h3⟩
      · rw [if_neg h3] at h; omega
theorem place_dup {f : Nat} {l : List (Rl f)} {j : Nat} (hj : j < l.length) (h : placeR f l l[j].cls < (j : Int)) : dupR f l := by
  rcases place_is f l l[j].cls with ⟨h1, h2⟩ | ⟨i, hi, h1, h2, _⟩
  · exact absurd rfl (h2 j hj)
  · exact ⟨j, i, hj, by omega, h2⟩
theorem place_apart {f : Nat} {l : List (Rl f)} (h : ∀ (j : Nat) (hj : j < l.length), ¬ placeR f l l[j].cls < (j : Int)) : ¬ dupR f l := by
  rintro ⟨i, k, hi, hk, e⟩
  refine h i hi ?_
  rcases place_is f l l[i].cls with ⟨h1, h2⟩ | ⟨m, hm, h1, h2, h3⟩
  · exact absurd rfl (h2 i hi)
  · rw [h1]
    rcases Nat.lt_or_ge k m with h' | h'
    · exact absurd e (h3 k (by omega) h')
    · omega
end
end Go.Proofs.YthindhlogkhclaaDoor
