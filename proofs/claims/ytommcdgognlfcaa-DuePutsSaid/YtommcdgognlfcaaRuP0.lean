/-
  Plain mathematics of layer 17 (rule): where the first rule of a class stands; which error Check tells. No program. No condition.
-/
import Derived.Test.YtommcdgognlfcaaRuM
namespace Go.Proofs.Ytommcdgognlfcaa
set_option maxRecDepth 100000
set_option linter.unusedVariables false

/-- Where the first rule of a class stands; -1, if none does. -/
def placeR (f : Nat) (l : List (Rl f)) (c : List UInt8) : Int := match l.findIdx? (fun r => decide (r.cls = c)) with | some i => (i : Int) | none => -1
theorem place_none {f : Nat} {l : List (Rl f)} {c : List UInt8} (h : ∀ (i : Nat) (hi : i < l.length), l[i].cls ≠ c) : placeR f l c = -1 := by
  unfold placeR
  have : l.findIdx? (fun r => decide (r.cls = c)) = none := by
    rw [List.findIdx?_eq_none_iff]
    intro r hr
    obtain ⟨i, hi, e⟩ := List.mem_iff_getElem.1 hr
    rw [← e]
    exact decide_eq_false (h i hi)
  rw [this]
theorem place_some {f : Nat} {l : List (Rl f)} {c : List UInt8} {j : Nat} (hj : j < l.length) (h1 : ∀ (i : Nat) (hi : i < l.length), i < j → l[i].cls ≠ c) (h2 : l[j].cls = c) : placeR f l c = (j : Int) := by
  unfold placeR
  have : l.findIdx? (fun r => decide (r.cls = c)) = some j := by
    rw [List.findIdx?_eq_some_iff_getElem]
    exact ⟨hj, decide_eq_true h2, fun i hi => by simpa using h1 i (by omega) hi⟩
  rw [this]
/-- What place tells: none, or the first one. -/
theorem place_is (f : Nat) (l : List (Rl f)) (c : List UInt8) : (placeR f l c = -1 ∧ ∀ (i : Nat) (hi : i < l.length), l[i].cls ≠ c) ∨ ∃ (j : Nat) (hj : j < l.length), placeR f l c = (j : Int) ∧ l[j].cls = c ∧ ∀ (i : Nat) (hi : i < l.length), i < j → l[i].cls ≠ c := by
  unfold placeR
  cases hq : l.findIdx? (fun r => decide (r.cls = c)) with
  | none =>
    rw [List.findIdx?_eq_none_iff] at hq
    exact .inl ⟨rfl, fun i hi => of_decide_eq_false (hq l[i] (List.getElem_mem hi))⟩
  | some j =>
    rw [List.findIdx?_eq_some_iff_getElem] at hq
    obtain ⟨hj, h1, h2⟩ := hq
    exact .inr ⟨j, hj, rfl, of_decide_eq_true h1, fun i hi hlt => by simpa using h2 i hlt⟩

/-- Two have one class: the program's way, and the document's. -/
def dupR (f : Nat) (l : List (Rl f)) : Prop := ∃ (i k : Nat) (hi : i < l.length) (hk : k < i), l[k].cls = l[i].cls
theorem dup_nodup (f : Nat) (l : List (Rl f)) : (l.map (·.cls)).Nodup ↔ ¬ dupR f l := by
  rw [List.nodup_iff_pairwise_ne, List.pairwise_iff_getElem]
  constructor
  · rintro h ⟨i, k, hi, hk, e⟩
    have := h k i (by simp; omega) (by simpa using hi) hk
    simp at this
    exact this e
  · intro h i j hi hj hij e
    simp at hi hj e
    exact h ⟨j, i, hj, hij, e⟩
theorem check_many {f : Nat} {l : List (Rl f)} (h : 12 < l.length) : checkR f l = 4 := by unfold checkR; rw [if_pos h]
theorem check_bad {f : Nat} {l : List (Rl f)} (h : ¬ 12 < l.length) {j : Nat} (hj : j < l.length) (hb : goodR f l[j] = false) : checkR f l = 1 := by
  unfold checkR
  have : l.all (goodR f) = false := by
    cases hq : l.all (goodR f) with
    | false => rfl
    | true =>
      have := List.all_eq_true.1 hq l[j] (List.getElem_mem hj)
      rw [hb] at this
      cases this
  rw [if_neg h, if_pos this]
theorem check_dup {f : Nat} {l : List (Rl f)} (h : ¬ 12 < l.length) (hg : ∀ (j : Nat) (hj : j < l.length), goodR f l[j] = true) (hd : dupR f l) : checkR f l = 6 := by
  unfold checkR
  have : l.all (goodR f) = true := List.all_eq_true.2 fun r hr => by
    obtain ⟨i, hi, e⟩ := List.mem_iff_getElem.1 hr
    rw [← e]
    exact hg i hi
  rw [if_neg h, this, if_neg (by decide), if_neg (fun hn => (dup_nodup f l).1 hn hd)]
theorem check_ok {f : Nat} {l : List (Rl f)} (h : ¬ 12 < l.length) (hg : ∀ (j : Nat) (hj : j < l.length), goodR f l[j] = true) (hd : ¬ dupR f l) : checkR f l = 0 := by
  unfold checkR
  have : l.all (goodR f) = true := List.all_eq_true.2 fun r hr => by
    obtain ⟨i, hi, e⟩ := List.mem_iff_getElem.1 hr
    rw [← e]
    exact hg i hi
  rw [if_neg h, this, if_neg (by decide), if_pos ((dup_nodup f l).2 hd)]
theorem check_zero {f : Nat} {l : List (Rl f)} (h : checkR f l = 0) : ¬ 12 < l.length ∧ l.all (goodR f) = true ∧ (l.map (·.cls)).Nodup := by
  unfold checkR at h
  by_cases h1 : 12 < l.length
  · rw [if_pos h1] at h; omega
  · rw [if_neg h1] at h
    by_cases h2 : l.all (goodR f) = false
    · rw [if_pos h2] at h; omega
    · rw [if_neg h2] at h
      by_cases h3 : (l.map (·.cls)).Nodup
      · exact ⟨h1, by simpa using h2, h3⟩
      · rw [if_neg h3] at h; omega
/-- Place is ahead: two have one class. -/
theorem place_dup {f : Nat} {l : List (Rl f)} {j : Nat} (hj : j < l.length) (h : placeR f l l[j].cls < (j : Int)) : dupR f l := by
  rcases place_is f l l[j].cls with ⟨h1, h2⟩ | ⟨i, hi, h1, h2, _⟩
  · exact absurd rfl (h2 j hj)
  · exact ⟨j, i, hj, by omega, h2⟩
theorem place_apart {f : Nat} {l : List (Rl f)} (h : ∀ (j : Nat) (hj : j < l.length), ¬ placeR f l l[j].cls < (j : Int)) : ¬ dupR f l := by
  rintro ⟨i, k, hi, hk, e⟩
  refine h i hi ?_
  rcases place_is f l l[i].cls with ⟨h1, h2⟩ | ⟨m, hm, h1, h2, h3⟩
  · exact absurd rfl (h2 i hi)
  · rw [h1]
    rcases Nat.lt_or_ge k m with h' | h'
    · exact absurd e (h3 k (by omega) h')
    · omega
end Go.Proofs.Ytommcdgognlfcaa
