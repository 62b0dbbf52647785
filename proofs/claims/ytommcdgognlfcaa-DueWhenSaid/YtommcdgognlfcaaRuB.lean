/-
  Plain mathematics of layer 17 (rule): how many parts more there may be behind a condition, kid by kid. No program. No condition.
-/
import Derived.Test.YtommcdgognlfcaaRuM
namespace Go.Proofs.Ytommcdgognlfcaa
set_option maxRecDepth 100000
set_option linter.unusedVariables false

/-- How many parts more there may be behind a condition; -1: it may not be. -/
def leftX (f : Nat) (x : Ex f) (n d : Int) : Int := if okX f x d = true ∧ (nodesX f x : Int) ≤ n then n - nodesX f x else -1
/-- How many parts the first j kids have. -/
def sumX (f : Nat) (ks : List (Ex f)) (j : Nat) : Nat := ((ks.take j).map (nodesX f)).sum

theorem nodes_eq (f : Nat) (x : Nx (Ex f)) : nodesX (f + 1) x = 1 + (x.kids.map (nodesX f)).sum := rfl
theorem ok_eq (f : Nat) (x : Nx (Ex f)) (d : Int) : okX (f + 1) x d = (decide (1 ≤ d) && fitsX x && x.kids.all fun u => okX f u (d - 1)) := rfl
theorem nodes_pos : ∀ (f : Nat) (x : Ex f), 1 ≤ nodesX f x
  | 0, x => nomatch x
  | f + 1, x => by have := nodes_eq f x; omega
theorem sum_ge {f : Nat} : ∀ ks : List (Ex f), ks.length ≤ (ks.map (nodesX f)).sum
  | [] => by simp
  | k :: ks => by
    have h1 := nodes_pos f k
    have h2 := sum_ge ks
    rw [List.map_cons, List.sum_cons, List.length_cons]
    omega
theorem sum_split {f : Nat} (ks : List (Ex f)) (j : Nat) : (ks.map (nodesX f)).sum = sumX f ks j + ((ks.drop j).map (nodesX f)).sum := by
  unfold sumX
  rw [← List.sum_append, ← List.map_append, List.take_append_drop]
theorem sumX_step {f : Nat} (ks : List (Ex f)) (j : Nat) (hj : j < ks.length) : sumX f ks (j + 1) = sumX f ks j + nodesX f ks[j] := by
  unfold sumX
  rw [List.take_add_one, List.getElem?_eq_getElem hj, List.map_append, List.sum_append]
  simp
theorem sumX_le {f : Nat} (ks : List (Ex f)) (j : Nat) : sumX f ks j ≤ (ks.map (nodesX f)).sum := by have := sum_split ks j; omega
theorem allX_step {f : Nat} {ks : List (Ex f)} {d : Int} {j : Nat} (hj : j < ks.length) (h : ((ks.take j).all fun u => okX f u d) = true) (hk : okX f ks[j] d = true) : ((ks.take (j + 1)).all fun u => okX f u d) = true := by
  rw [List.take_add_one, List.getElem?_eq_getElem hj, List.all_append, h]
  simp [hk]
theorem allX_stop {f : Nat} {ks : List (Ex f)} {d : Int} {j : Nat} (hj : j < ks.length) (hk : okX f ks[j] d = false) : (ks.all fun u => okX f u d) = false := by
  cases hq : ks.all fun u => okX f u d with
  | false => rfl
  | true =>
    have := List.all_eq_true.1 hq ks[j] (List.getElem_mem hj)
    rw [hk] at this
    cases this

theorem left_low {f : Nat} (x : Ex f) {n d : Int} (h : n < 1) : leftX f x n d = -1 := by
  unfold leftX
  have := nodes_pos f x
  rw [if_neg (fun h => by omega)]
theorem left_flat {f : Nat} (x : Nx (Ex f)) {n d : Int} (h : d < 1) : leftX (f + 1) x n d = -1 := by
  unfold leftX
  rw [ok_eq, decide_eq_false (by omega), if_neg (by simp)]
theorem left_unfit {f : Nat} (x : Nx (Ex f)) {n d : Int} (h : fitsX x = false) : leftX (f + 1) x n d = -1 := by
  unfold leftX
  rw [ok_eq, h, if_neg (by simp)]
theorem left_one {f : Nat} (x : Nx (Ex f)) {n d : Int} (h : fitsX x = true) (hk : x.kids.length = 0) (hn : 1 ≤ n) (hd : 1 ≤ d) : leftX (f + 1) x n d = n - 1 := by
  unfold leftX
  rw [ok_eq, h, decide_eq_true hd, nodes_eq, List.eq_nil_of_length_eq_zero hk]
  rw [if_pos ⟨by simp, by simp; omega⟩]
  simp
theorem left_wide {f : Nat} (x : Nx (Ex f)) {n d : Int} (h : n - 1 < (x.kids.length : Int)) : leftX (f + 1) x n d = -1 := by
  unfold leftX
  have := sum_ge x.kids
  rw [nodes_eq, if_neg (fun h => by omega)]
/-- All kids are right. -/
theorem left_all {f : Nat} (x : Nx (Ex f)) {n d m : Int} (h : fitsX x = true) (hd : 1 ≤ d) (ha : ((x.kids.take x.kids.length).all fun u => okX f u (d - 1)) = true) (hm : m = n - 1 - (sumX f x.kids x.kids.length : Int)) (h0 : 0 ≤ m) : leftX (f + 1) x n d = m := by
  unfold leftX
  rw [List.take_length] at ha
  have hs : sumX f x.kids x.kids.length = (x.kids.map (nodesX f)).sum := by unfold sumX; rw [List.take_length]
  rw [hs] at hm
  rw [ok_eq, h, decide_eq_true hd, ha, nodes_eq, if_pos ⟨rfl, by omega⟩]
  omega
/-- One kid is wrong, or too great. -/
theorem left_stop {f : Nat} (x : Nx (Ex f)) {n d m : Int} {j : Nat} (hj : j < x.kids.length) (hm : m = n - 1 - (sumX f x.kids j : Int)) (h : leftX f x.kids[j] m (d - 1) < 0) : leftX (f + 1) x n d = -1 := by
  unfold leftX at h ⊢
  have h1 := sumX_step x.kids j hj
  have h2 := sumX_le x.kids (j + 1)
  by_cases hk : okX f x.kids[j] (d - 1) = true
  · by_cases hn : (nodesX f x.kids[j] : Int) ≤ m
    · rw [if_pos ⟨hk, hn⟩] at h
      omega
    · rw [nodes_eq, if_neg (fun h => by omega)]
  · rw [ok_eq, allX_stop hj (by simpa using hk), if_neg (by simp)]
/-- One kid is right. -/
theorem left_step {f : Nat} (x : Nx (Ex f)) {n d m : Int} {j : Nat} (hj : j < x.kids.length) (hm : m = n - 1 - (sumX f x.kids j : Int)) (ha : ((x.kids.take j).all fun u => okX f u (d - 1)) = true) (h : 0 ≤ leftX f x.kids[j] m (d - 1)) :
    leftX f x.kids[j] m (d - 1) = n - 1 - (sumX f x.kids (j + 1) : Int) ∧ ((x.kids.take (j + 1)).all fun u => okX f u (d - 1)) = true := by
  unfold leftX at h ⊢
  have h1 := sumX_step x.kids j hj
  by_cases hk : okX f x.kids[j] (d - 1) = true ∧ (nodesX f x.kids[j] : Int) ≤ m
  · rw [if_pos hk] at h ⊢
    exact ⟨by omega, allX_step hj ha hk.1⟩
  · rw [if_neg hk] at h
    omega
theorem left_le {f : Nat} (x : Ex f) (n d : Int) (hn : -1 ≤ n) : -1 ≤ leftX f x n d ∧ leftX f x n d ≤ n := by
  unfold leftX
  split
  · rename_i h
    exact ⟨by omega, by omega⟩
  · exact ⟨by omega, hn⟩
theorem left_may {f : Nat} (x : Ex f) : decide (0 ≤ leftX f x 24 8) = mayX f x := by
  unfold leftX mayX
  by_cases h : okX f x 8 = true ∧ (nodesX f x : Int) ≤ 24
  · rw [if_pos h, h.1, decide_eq_true (by omega), decide_eq_true (by omega)]; rfl
  · rw [if_neg h, decide_eq_false (by omega)]
    cases hk : okX f x 8 with
    | false => rfl
    | true => rw [decide_eq_false (fun hn => h ⟨hk, by omega⟩)]; rfl

/-! What does not fit. -/
theorem unfit_op {α : Type} {x : Nx α} (h1 : x.op ≠ 1) (h2 : x.op ≠ 2) (h3 : x.op ≠ 3) : fitsX x = false := by unfold fitsX; rw [if_neg h1, if_neg (by simp [h2, h3])]
theorem unfit_low {α : Type} {x : Nx α} (h1 : x.op = 1) (h : x.days < 0) : fitsX x = false := by unfold fitsX; rw [if_pos h1, decide_eq_false (by omega)]; rfl
theorem unfit_high {α : Type} {x : Nx α} (h1 : x.op = 1) (h : 1048576 < x.days) : fitsX x = false := by unfold fitsX; rw [if_pos h1, decide_eq_false (by omega : ¬ x.days ≤ 1048576)]; simp
theorem unfit_word {α : Type} {x : Nx α} (h1 : x.op = 1) (h : wordS x.mile = false) : fitsX x = false := by unfold fitsX; rw [if_pos h1, h]; simp
theorem unfit_kids {α : Type} {x : Nx α} (h1 : x.op = 1) (h : 0 < x.kids.length) : fitsX x = false := by unfold fitsX; rw [if_pos h1, decide_eq_false (by omega : ¬ x.kids.length = 0)]; simp
theorem fit_one {α : Type} {x : Nx α} (h1 : x.op = 1) (h : 0 ≤ x.days) (h2 : x.days ≤ 1048576) (hw : wordS x.mile = true) (hk : x.kids.length = 0) : fitsX x = true := by
  unfold fitsX; rw [if_pos h1, decide_eq_true h, decide_eq_true h2, hw, decide_eq_true hk]; rfl
theorem unfit_days {α : Type} {x : Nx α} (h1 : x.op ≠ 1) (h : x.days ≠ 0) : fitsX x = false := by unfold fitsX; rw [if_neg h1, decide_eq_false h]; simp
theorem unfit_mile {α : Type} {x : Nx α} (h1 : x.op ≠ 1) (h : x.mile ≠ []) : fitsX x = false := by unfold fitsX; rw [if_neg h1, decide_eq_false h]; simp
theorem unfit_few {α : Type} {x : Nx α} (h1 : x.op ≠ 1) (h : x.kids.length < 2) : fitsX x = false := by unfold fitsX; rw [if_neg h1, decide_eq_false (by omega : ¬ 2 ≤ x.kids.length)]; simp
theorem fit_many {α : Type} {x : Nx α} (h1 : x.op ≠ 1) (h2 : x.op = 2 ∨ x.op = 3) (h : x.days = 0) (hm : x.mile = []) (hk : ¬ x.kids.length < 2) : fitsX x = true := by
  unfold fitsX; rw [if_neg h1, if_pos h2, decide_eq_true h, decide_eq_true hm, decide_eq_true (by omega)]; rfl
end Go.Proofs.Ytommcdgognlfcaa
