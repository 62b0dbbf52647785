/-
  Plain mathematics of layer 15 (span): what a unit's days are, which number digits tell, what a span's text is and what a text tells, which tick comes behind another one. No program. No condition.
-/
import Derived.Lib.ItoaNum
namespace Go.Proofs.Ytommcdgognlfcaa
open Go.Lib
set_option linter.unusedVariables false

/-- How many days a unit has; 0 of a byte that is none. -/
def unitD (c : Nat) : Nat := if c = 100 then 1 else if c = 119 then 7 else if c = 109 then 30 else if c = 121 then 365 else 0

/-- So many of a unit: the days, and the error. -/
def daysD (n : Int) (c : Nat) : Int × Int :=
  if n < 0 ∨ unitD c = 0 then (0, 1) else if (1048576 : Int) / (unitD c : Int) < n then (0, 16) else (n * (unitD c : Int), 0)

/-- The number that digits tell, from n on. -/
def numF : Nat → List UInt8 → Option Nat
  | n, [] => some n
  | n, b :: l => if 48 ≤ b.toNat ∧ b.toNat ≤ 57 then numF (10 * n + (b.toNat - 48)) l else none

/-- The number that at most seven digits tell, the first of which is no 0 but where it stands alone. -/
def numD (l : List UInt8) : Option Nat := if l.length < 1 ∨ 7 < l.length ∨ (l.head? = some 48 ∧ 1 < l.length) then none else numF 0 l

/-- What a text tells: the days, and the error. -/
def parseD (l : List UInt8) : Int × Int :=
  match l.getLast? with
  | none => (0, 2)
  | some c => if unitD c.toNat = 0 then (0, 2) else match numD l.dropLast with
    | none => (0, 2)
    | some n => daysD (n : Int) c.toNat

/-- The greatest unit that divides days; of 0 it is a day. -/
def greatD (d : Nat) : UInt8 := if d = 0 then 100 else if d % 365 = 0 then 121 else if d % 30 = 0 then 109 else if d % 7 = 0 then 119 else 100

/-- A span's text; none of what is no span. -/
def textD (d : Int) : List UInt8 := if d < 0 ∨ 1048576 < d then [] else decDigits (d.toNat / unitD (greatD d.toNat).toNat) ++ [greatD d.toNat]

/-- The tick behind another one. -/
def afterD (t d : Int) : Int × Bool := if t < 0 ∨ 1099511627776 < t ∨ d < 0 ∨ 1048576 < d ∨ 1099511627776 < t + d then (0, false) else (t + d, true)

/-- The clock, set forward. -/
def addD (t n : Int) : Int × Int := if t < 0 ∨ 1099511627776 < t ∨ n < 1 then (0, 1) else if 1099511627776 - t < n then (0, 16) else (t + n, 0)

theorem unit_cases (c : Nat) : unitD c = 0 ∨ (c = 100 ∧ unitD c = 1) ∨ (c = 119 ∧ unitD c = 7) ∨ (c = 109 ∧ unitD c = 30) ∨ (c = 121 ∧ unitD c = 365) := by
  unfold unitD
  split
  · simp [*]
  · split
    · simp [*]
    · split
      · simp [*]
      · split
        · simp [*]
        · simp

theorem great_unit (d : Nat) : (greatD d = 100 ∧ unitD (greatD d).toNat = 1) ∨ (greatD d = 119 ∧ unitD (greatD d).toNat = 7) ∨ (greatD d = 109 ∧ unitD (greatD d).toNat = 30) ∨ (greatD d = 121 ∧ unitD (greatD d).toNat = 365) := by
  unfold greatD
  repeat' split
  all_goals simp [unitD]

theorem great_pos (d : Nat) : 1 ≤ unitD (greatD d).toNat ∧ unitD (greatD d).toNat ≤ 365 := by
  rcases great_unit d with h | h | h | h <;> (rw [h.2]; omega)

theorem great_divides (d : Nat) : d % unitD (greatD d).toNat = 0 := by
  unfold greatD
  repeat' split
  all_goals (simp [unitD]; try omega)

/-- A unit that divides is no greater than the greatest one. -/
theorem great_most (n : Nat) (c : Nat) (hn : 0 < n * unitD c) : unitD c ≤ unitD (greatD (n * unitD c)).toNat := by
  rcases unit_cases c with h | ⟨_, h⟩ | ⟨_, h⟩ | ⟨_, h⟩ | ⟨_, h⟩
  · rw [h]; omega
  · rw [h]; exact (great_pos _).1
  all_goals
    rw [h] at hn ⊢
    unfold greatD
    rw [if_neg (by omega)]
    repeat' split
    all_goals first | omega | (simp [unitD]; done) | (exfalso; omega)

theorem numF_append : ∀ (l m : List UInt8) (n : Nat), numF n (l ++ m) = (numF n l).bind fun k => numF k m
  | [], m, n => rfl
  | b :: l, m, n => by
    simp only [List.cons_append, numF]
    by_cases h : 48 ≤ b.toNat ∧ b.toNat ≤ 57
    · rw [if_pos h, if_pos h]; exact numF_append l m _
    · rw [if_neg h, if_neg h]; rfl

theorem digit_nat (k : Nat) (h : k < 10) : (UInt8.ofNat (48 + k)).toNat = 48 + k := by
  rw [UInt8.toNat_ofNat']; omega

/-- The digits of a number tell it. -/
theorem numF_digits (k : Nat) : numF 0 (decDigits k) = some k := by
  induction k using Nat.strongRecOn with
  | _ k ih =>
    by_cases h : k < 10
    · rw [decDigits_one h]
      simp only [numF]
      rw [digit_nat k h, if_pos (by omega)]
      congr 1
      omega
    · rw [decDigits, dif_neg h, numF_append, ih (k / 10) (by omega)]
      simp only [Option.bind_some, numF]
      rw [digit_nat (k % 10) (by omega), if_pos (by omega)]
      congr 1
      omega

theorem digits_pos (k : Nat) : 1 ≤ (decDigits k).length := by rw [decDigits_length]; exact nDigits_pos k

theorem digits_head (k : Nat) (h : 1 ≤ k) : (decDigits k).head? ≠ some 48 := by
  induction k using Nat.strongRecOn with
  | _ k ih =>
    by_cases h9 : k < 10
    · rw [decDigits_one h9]
      intro e
      simp only [List.head?_cons, Option.some.injEq] at e
      have := congrArg UInt8.toNat e
      rw [digit_nat k h9] at this
      simp at this
      omega
    · rw [decDigits, dif_neg h9]
      have := ih (k / 10) (by omega) (by omega)
      have hp := digits_pos (k / 10)
      cases hd : decDigits (k / 10) with
      | nil => rw [hd] at hp; simp at hp
      | cons a t => rw [hd] at this; simpa using this

theorem numF_bounds : ∀ (l : List UInt8) (n k : Nat), numF n l = some k → n * 10 ^ l.length ≤ k ∧ k < (n + 1) * 10 ^ l.length
  | [], n, k, h => by
    simp only [numF, Option.some.injEq] at h
    subst h
    simp
  | b :: l, n, k, h => by
    simp only [numF] at h
    by_cases hb : 48 ≤ b.toNat ∧ b.toNat ≤ 57
    · rw [if_pos hb] at h
      obtain ⟨h1, h2⟩ := numF_bounds l _ _ h
      rw [List.length_cons, Nat.pow_succ]
      generalize 10 ^ l.length = p at h1 h2 ⊢
      constructor
      · calc n * (p * 10) = 10 * n * p := by rw [Nat.mul_comm p 10, ← Nat.mul_assoc, Nat.mul_comm n 10]
          _ ≤ (10 * n + (b.toNat - 48)) * p := Nat.mul_le_mul_right _ (by omega)
          _ ≤ k := h1
      · calc k < (10 * n + (b.toNat - 48) + 1) * p := h2
          _ ≤ ((n + 1) * 10) * p := Nat.mul_le_mul_right _ (by omega)
          _ = (n + 1) * (p * 10) := by rw [Nat.mul_assoc, Nat.mul_comm 10 p]
    · rw [if_neg hb] at h; cases h

theorem numD_some {l : List UInt8} {n : Nat} (h : numD l = some n) : 1 ≤ l.length ∧ l.length ≤ 7 ∧ (l.head? = some 48 → l.length = 1) ∧ numF 0 l = some n := by
  unfold numD at h
  by_cases hc : l.length < 1 ∨ 7 < l.length ∨ (l.head? = some 48 ∧ 1 < l.length)
  · rw [if_pos hc] at h; cases h
  · rw [if_neg hc] at h
    refine ⟨by omega, by omega, fun hh => ?_, h⟩
    by_cases h1 : 1 < l.length
    · exact absurd (.inr (.inr ⟨hh, h1⟩)) hc
    · omega

/-- Each number has one row of digits. -/
theorem numD_length {l : List UInt8} {n : Nat} (h : numD l = some n) : l.length = nDigits n := by
  obtain ⟨h1, h7, hh, hn⟩ := numD_some h
  cases l with
  | nil => simp at h1
  | cons b l =>
    simp only [numF] at hn
    by_cases hb : 48 ≤ b.toNat ∧ b.toNat ≤ 57
    · rw [if_pos hb] at hn
      obtain ⟨l1, l2⟩ := numF_bounds l _ _ hn
      by_cases h0 : b.toNat = 48
      · have hb48 : b = 48 := UInt8.toNat.inj (by rw [h0]; rfl)
        have := hh (by rw [hb48]; rfl)
        have hl : l = [] := List.length_eq_zero_iff.1 (by simpa using this)
        subst hl
        simp only [numF, Option.some.injEq] at hn
        rw [nDigits_small (by omega)]
        rfl
      · refine (nDigits_unique l.length n ?_ ?_).symm
        · calc 10 ^ l.length = 1 * 10 ^ l.length := (Nat.one_mul _).symm
            _ ≤ (10 * 0 + (b.toNat - 48)) * 10 ^ l.length := Nat.mul_le_mul_right _ (by omega)
            _ ≤ n := l1
        · calc n < (10 * 0 + (b.toNat - 48) + 1) * 10 ^ l.length := l2
            _ ≤ 10 * 10 ^ l.length := Nat.mul_le_mul_right _ (by omega)
            _ = 10 ^ (l.length + 1) := by rw [Nat.pow_succ, Nat.mul_comm]
    · rw [if_neg hb] at hn; cases hn

theorem nDigits_mono : ∀ (a b : Nat), a ≤ b → nDigits a ≤ nDigits b := by
  intro a
  induction a using Nat.strongRecOn with
  | _ a ih =>
    intro b hab
    by_cases ha : a < 10
    · rw [nDigits_small ha]; exact nDigits_pos b
    · rw [nDigits_big ha, nDigits_big (u := b) (by omega)]
      have := ih (a / 10) (by omega) (b / 10) (Nat.div_le_div_right hab)
      omega

theorem nDigits_seven (k : Nat) (h : k ≤ 1048576) : nDigits k ≤ 7 := by
  have := nDigits_mono k 1048576 h
  have e : nDigits 1048576 = 7 := nDigits_unique 6 _ (by decide) (by decide)
  omega

/-- The digits of a number that is not too great are read as itself. -/
theorem numD_digits (k : Nat) (h : k ≤ 1048576) : numD (decDigits k) = some k := by
  unfold numD
  have h1 := digits_pos k
  have h7 := nDigits_seven k h
  rw [← decDigits_length] at h7
  rw [if_neg, numF_digits]
  rintro (a | a | ⟨a, b⟩)
  · omega
  · omega
  · by_cases h0 : 1 ≤ k
    · exact digits_head k h0 a
    · have hk : k = 0 := by omega
      subst hk
      rw [decDigits_one (by omega)] at b
      simp at b

theorem text_none (d : Int) : textD d = [] ↔ (d < 0 ∨ 1048576 < d) := by
  unfold textD
  by_cases h : d < 0 ∨ 1048576 < d
  · rw [if_pos h]; simp [h]
  · rw [if_neg h]; simp [h]

/-- What is told as a text is read. -/
theorem parse_text (d : Int) (h0 : 0 ≤ d) (h1 : d ≤ 1048576) : parseD (textD d) = (d, 0) := by
  obtain ⟨k, rfl⟩ : ∃ k : Nat, d = (k : Int) := ⟨d.toNat, by omega⟩
  unfold textD parseD
  rw [if_neg (by omega)]
  simp only [Int.toNat_natCast]
  rw [List.getLast?_concat, List.dropLast_concat]
  have hp := great_pos k
  have hd := great_divides k
  generalize greatD k = c at hp hd ⊢
  simp only
  rw [if_neg (by omega), numD_digits _ (Nat.le_trans (Nat.div_le_self _ _) (by omega))]
  simp only
  unfold daysD
  generalize unitD c.toNat = u at hp hd ⊢
  have hq : k / u ≤ 1048576 / u := Nat.div_le_div_right (by omega)
  have hm : k / u * u = k := by
    have := Nat.div_add_mod k u
    rw [hd, Nat.mul_comm] at this
    omega
  have hneg : ¬ (((k / u : Nat) : Int) < 0 ∨ u = 0) := by
    generalize k / u = q
    omega
  rw [if_neg hneg]
  have e1 : ¬ ((1048576 : Int) / (u : Int) < ((k / u : Nat) : Int)) := by
    have : (1048576 : Int) / (u : Int) = ((1048576 / u : Nat) : Int) := rfl
    rw [this]
    omega
  rw [if_neg e1]
  have e2 : ((k / u : Nat) : Int) * (u : Int) = (k : Int) := by
    rw [← Int.natCast_mul, hm]
  rw [e2]

/-- What is read is a span, and is told by no longer text. -/
theorem text_parse (l : List UInt8) (h : (parseD l).2 = 0) : 0 ≤ (parseD l).1 ∧ (parseD l).1 ≤ 1048576 ∧ (textD (parseD l).1).length ≤ l.length := by
  unfold parseD at h ⊢
  cases hl : l.getLast? with
  | none => rw [hl] at h; simp at h
  | some c =>
    rw [hl] at h
    simp only at h ⊢
    by_cases hu : unitD c.toNat = 0
    · rw [if_pos hu] at h; simp at h
    · rw [if_neg hu] at h ⊢
      cases hn : numD l.dropLast with
      | none => rw [hn] at h; simp at h
      | some n =>
        rw [hn] at h
        simp only at h ⊢
        unfold daysD at h ⊢
        have hneg : ¬ ((n : Int) < 0 ∨ unitD c.toNat = 0) := by omega
        rw [if_neg hneg] at h ⊢
        by_cases hb : (1048576 : Int) / (unitD c.toNat : Int) < (n : Int)
        · rw [if_pos hb] at h; simp at h
        · rw [if_neg hb]
          have hlen : l.dropLast.length = nDigits n := numD_length hn
          have hne : 0 < l.length := by cases l with
            | nil => simp at hl
            | cons a t => simp
          rw [List.length_dropLast] at hlen
          have hnp := nDigits_pos n
          have hq : n ≤ 1048576 / unitD c.toNat := by
            have : (1048576 : Int) / (unitD c.toNat : Int) = ((1048576 / unitD c.toNat : Nat) : Int) := rfl
            rw [this] at hb
            omega
          have hm : n * unitD c.toNat ≤ 1048576 := Nat.le_trans (Nat.mul_le_mul_right _ hq) (Nat.div_mul_le_self _ _)
          have e2 : (n : Int) * (unitD c.toNat : Int) = ((n * unitD c.toNat : Nat) : Int) := by rw [Int.natCast_mul]
          rw [e2]
          refine ⟨by omega, by omega, ?_⟩
          unfold textD
          rw [if_neg (by omega)]
          simp only [Int.toNat_natCast, List.length_append, List.length_singleton, decDigits_length]
          have hle : n * unitD c.toNat / unitD (greatD (n * unitD c.toNat)).toNat ≤ n := by
            by_cases h0 : n * unitD c.toNat = 0
            · rw [h0]; simp
            · have hg := great_most n c.toNat (by omega)
              refine Nat.div_le_of_le_mul ?_
              rw [Nat.mul_comm (unitD (greatD (n * unitD c.toNat)).toNat) n]
              exact Nat.mul_le_mul_left n hg
          have := nDigits_mono _ _ hle
          omega
end Go.Proofs.Ytommcdgognlfcaa
