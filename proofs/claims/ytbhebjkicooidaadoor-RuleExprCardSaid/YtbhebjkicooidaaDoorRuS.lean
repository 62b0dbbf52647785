/-
  Plain mathematics of layer 17 (rule): how long texts of conditions are. No program. No condition.
-/
import Derived.Test.YtbhebjkicooidaaDoorRuB
namespace Go.Proofs.YtbhebjkicooidaaDoor
set_option maxRecDepth 100000
set_option linter.unusedVariables false

theorem text_len (d : Int) : (textD d).length ≤ 8 := by
  unfold textD
  split
  · simp
  · rename_i h
    have := nDigits_seven (d.toNat / unitD (greatD d.toNat).toNat) (Nat.le_trans (Nat.div_le_self _ _) (by omega))
    rw [List.length_append, Lib.decDigits_length]
    simp
    omega
theorem fits_one {α : Type} {x : Nx α} (h : fitsX x = true) (h1 : x.op = 1) : 0 ≤ x.days ∧ x.days ≤ 1048576 ∧ wordS x.mile = true ∧ x.kids = [] := by
  unfold fitsX at h
  rw [if_pos h1] at h
  simp only [Bool.and_eq_true, decide_eq_true_eq] at h
  exact ⟨h.1.1.1, h.1.1.2, h.1.2, List.eq_nil_of_length_eq_zero h.2⟩
theorem fits_many {α : Type} {x : Nx α} (h : fitsX x = true) (h1 : x.op ≠ 1) : (x.op = 2 ∨ x.op = 3) ∧ x.days = 0 ∧ x.mile = [] ∧ 2 ≤ x.kids.length := by
  unfold fitsX at h
  rw [if_neg h1] at h
  by_cases h2 : x.op = 2 ∨ x.op = 3
  · rw [if_pos h2] at h
    simp only [Bool.and_eq_true, decide_eq_true_eq] at h
    exact ⟨h2, h.1.1, h.1.2, h.2⟩
  · rw [if_neg h2] at h; cases h
theorem word_sixteen {l : List UInt8} (h : wordS l = true) : l.length ≤ 16 ∧ 1 ≤ l.length := by
  unfold wordS at h
  simp only [Bool.and_eq_true, decide_eq_true_eq] at h
  exact ⟨h.1.1.1.2, h.1.1.1.1⟩
theorem br_len (p k : Int) (t : List UInt8) : (brX p k t).length ≤ t.length + 2 := by
  unfold brX
  split <;> simp
theorem sep_len (p : Int) : (sepX p).length ≤ 5 := by
  unfold sepX
  split <;> simp
theorem join_len (s : List UInt8) (hs : s.length ≤ 5) : ∀ (x : List UInt8) (l : List (List UInt8)), (Lib.join (x :: l) s).length ≤ ((x :: l).map fun t => t.length + 5).sum
  | x, l => by
    rw [Lib.join_cons, List.length_append, Lib.joinTail_length]
    have h1 : Lib.lens l = (l.map (·.length)).sum := rfl
    have h2 : ∀ l : List (List UInt8), s.length * l.length + (l.map (·.length)).sum ≤ (l.map fun t => t.length + 5).sum := by
      intro l
      induction l with
      | nil => simp
      | cons y l ih =>
        simp only [List.length_cons, List.map_cons, List.sum_cons, Nat.mul_succ]
        omega
    have := h2 l
    rw [List.map_cons, List.sum_cons, h1]
    omega
theorem expr_eq (f : Nat) (x : Nx (Ex f)) : exprX (f + 1) x = if x.op = 1 then textD x.days ++ afterW ++ x.mile else Lib.join (x.kids.map fun u => brX x.op (opX f u) (exprX f u)) (sepX x.op) := rfl
/-- A condition's text is short. -/
theorem expr_len : ∀ (f : Nat) (x : Ex f) (d : Int), okX f x d = true → (exprX f x).length + 7 ≤ 40 * nodesX f x
  | 0, x, _, _ => nomatch x
  | f + 1, x, d, h => by
    have ih := fun u d h => expr_len f u d h
    replace h := (ok_eq f x d).symm.trans h
    simp only [Bool.and_eq_true] at h
    obtain ⟨⟨_, hf⟩, hk⟩ := h
    refine Nat.le_trans (Nat.le_of_eq (congrArg (fun t : List UInt8 => t.length + 7) (expr_eq f x))) (Nat.le_trans ?_ (Nat.le_of_eq (congrArg (40 * ·) (nodes_eq f x).symm)))
    by_cases h1 : (x : Nx (Ex f)).op = 1
    · rw [if_pos h1]
      obtain ⟨_, _, hw, _⟩ := fits_one hf h1
      have h3 := text_len (x : Nx (Ex f)).days
      have h4 := (word_sixteen hw).1
      unfold afterW
      simp only [List.length_append, List.length_cons, List.length_nil]
      omega
    · rw [if_neg h1]
      have key : ∀ ks : List (Ex f), (ks.all fun u => okX f u (d - 1)) = true → ((ks.map fun u => brX (x : Nx (Ex f)).op (opX f u) (exprX f u)).map fun t => t.length + 5).sum ≤ 40 * (ks.map (nodesX f)).sum := by
        intro ks
        induction ks with
        | nil => simp
        | cons u ks ihk =>
          intro hk
          rw [List.all_cons, Bool.and_eq_true] at hk
          have h1 := ih u (d - 1) hk.1
          have h2 := ihk hk.2
          have h3 := br_len (x : Nx (Ex f)).op (opX f u) (exprX f u)
          simp only [List.map_cons, List.sum_cons] at h2 ⊢
          omega
      have hm := key _ hk
      cases hq : (x : Nx (Ex f)).kids with
      | nil => simp [Lib.join_nil]
      | cons u ks =>
        rw [hq] at hm
        have := join_len (sepX (x : Nx (Ex f)).op) (sep_len _) (brX (x : Nx (Ex f)).op (opX f u) (exprX f u)) (ks.map fun u => brX (x : Nx (Ex f)).op (opX f u) (exprX f u))
        rw [List.map_cons] at hm ⊢
        omega
/-- The kids of one that is right are right. -/
theorem ok_kid {f : Nat} {x : Nx (Ex f)} {d : Int} (h : okX (f + 1) x d = true) {u : Ex f} (hu : u ∈ x.kids) : okX f u (d - 1) = true := by
  rw [ok_eq] at h
  simp only [Bool.and_eq_true] at h
  exact List.all_eq_true.1 h.2 u hu
theorem ok_fits {f : Nat} {x : Nx (Ex f)} {d : Int} (h : okX (f + 1) x d = true) : fitsX x = true := by
  rw [ok_eq] at h
  simp only [Bool.and_eq_true] at h
  exact h.1.2
theorem nodes_kid {f : Nat} {x : Nx (Ex f)} {j : Nat} (hj : j < x.kids.length) : nodesX f x.kids[j] + x.kids.length ≤ nodesX (f + 1) x := by
  rw [nodes_eq]
  have h1 := sumX_step x.kids j hj
  have h2 : sumX f x.kids (j + 1) + (x.kids.length - (j + 1)) ≤ (x.kids.map (nodesX f)).sum := by
    rw [sum_split x.kids (j + 1)]
    have := sum_ge (x.kids.drop (j + 1))
    rw [List.length_drop] at this
    omega
  have h3 : j ≤ sumX f x.kids j := by
    have := sum_ge (x.kids.take j)
    rw [List.length_take] at this
    unfold sumX
    omega
  omega
end Go.Proofs.YtbhebjkicooidaaDoor
