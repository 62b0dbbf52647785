/-
  TermW: The document's Put of layer 5, over the loaded program: its contract; how many bytes a term has that may be. No condition.
-/
import Derived.Test.YthgaljgelngmaaaDoorDv15

section
namespace Go.Proofs.YthgaljgelngmaaaDoor
open Go.RowKit
set_option linter.unusedVariables false

theorem kidsN_le (k : Int) : kidsN k ≤ 2 := by unfold kidsN; split; omega; split; omega; split <;> omega

theorem numb_le (n : Nat) : (numb n).length ≤ 9 := by
  have := dig_length_le 8 n
  simp only [numb, List.length_cons]; omega

theorem headB_le {α : Type} (t : Nd α) (h : ownOk t = true) : (headB t).length ≤ 119 := by
  simp only [ownOk, Bool.and_eq_true, decide_eq_true_eq] at h
  have hd := h.2
  have h1 := numb_le t.n
  have h2 := numb_le t.data.length
  simp only [headB, List.length_cons, List.length_append]
  have e1 : ((if numK t.kind = true then numb t.n else []) : List UInt8).length ≤ 9 := by split; exact h1; simp
  have e2 : ((if t.kind = 3 then texb t.data else []) : List UInt8).length ≤ 109 := by
    split
    · simp only [texb, List.length_append]; omega
    · simp
  omega

theorem flat_le {α : Type} (g : α → List UInt8) (X : Nat) : ∀ (ks : List α), (∀ u, u ∈ ks → (g u).length ≤ X) → ((ks.map g).flatten).length ≤ ks.length * X
  | [], _ => by simp
  | a :: l, h => by
    have h1 := h a (by simp)
    have h2 := flat_le g X l fun u hu => h u (by simp [hu])
    simp only [List.map_cons, List.flatten_cons, List.length_append, List.length_cons, Nat.succ_mul]
    omega

theorem bytes_le : ∀ (f : Nat) (t : Tm f) (n : Nat), mayT f t n = true → (bytesT f t).length + 119 ≤ 119 * 2 ^ n
  | 0, t, _, _ => nomatch t
  | f + 1, (t : Nd (Tm f)), n, h => by
    have h' : (decide (1 ≤ (n : Int)) && ownOk t && (t.kids.all fun u => mayT f u ((n : Int) - 1)) && (decide (t.kind ≠ 5) || decide (kindAt f t.kids 1 = 2))) = true := h
    simp only [Bool.and_eq_true, decide_eq_true_eq] at h'
    obtain ⟨⟨⟨h1, h2⟩, h3⟩, _⟩ := h'
    obtain ⟨m, rfl⟩ : ∃ m, n = m + 1 := ⟨n - 1, by omega⟩
    have hx : ((m + 1 : Nat) : Int) - 1 = (m : Int) := by omega
    rw [hx] at h3
    have hk : ∀ u, u ∈ t.kids → (bytesT f u).length ≤ 119 * 2 ^ m - 119 := fun u hu => by
      have := bytes_le f u m (List.all_eq_true.1 h3 u hu)
      omega
    have hh := headB_le t h2
    have hf := flat_le (bytesT f) _ t.kids hk
    have h2' := h2
    simp only [ownOk, Bool.and_eq_true, decide_eq_true_eq] at h2'
    have hl : t.kids.length ≤ 2 := by have := kidsN_le t.kind; omega
    have hm : t.kids.length * (119 * 2 ^ m - 119) ≤ 2 * (119 * 2 ^ m - 119) := Nat.mul_le_mul_right _ hl
    have hp := Nat.one_le_two_pow (n := m)
    show (headB t ++ (t.kids.map (bytesT f)).flatten).length + 119 ≤ _
    rw [List.length_append, Nat.pow_succ]
    omega

theorem bytes_may {f : Nat} {t : Tm f} (h : mayT f t 8 = true) : (bytesT f t).length ≤ 1000000 := by
  have := bytes_le f t 8 h
  omega

/-- What Put answers. -/
def putOf (f : Nat) (t : Tm f) : List UInt8 × Int := if mayT f t 8 = true then (if 400 < (bytesT f t).length then ([], 3) else (bytesT f t, 0)) else ([], 1)

end Go.Proofs.YthgaljgelngmaaaDoor
end
