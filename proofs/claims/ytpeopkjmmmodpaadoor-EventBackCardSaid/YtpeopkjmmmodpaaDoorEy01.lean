/-
  SpM: Plain mathematics of layer 15 (span): what a unit's days are, which number digits tell, what a span's text is and what a text tells, which tick comes behind another one. No program. No condition.
  WrM: Plain mathematics of layer 21 (writ): a scope's words and text; a text's words; how words are read as a scope. No program. No condition.
  WrP: Plain mathematics of layer 21 (writ): there and back (P21.3): what is written of a scope that may be is read as that scope. No program. No condition.
  EvM: Plain mathematics of layer 23 (event): which events may be, their bytes, how they are read, their texts; there and back (P23.3); one text, one event. No program. No condition.
  Kp: Own words for memory, over any program: nothing but memory has turned, and no block of which a property holds; whole numbers of 64 bits; slices of cells. No condition; nothing of the dump is used here.
  Args: Arguments opened: a []byte that came in reads as bytes. No condition.
-/
import Derived.Lib.ItoaNum
import Derived.Test.YtpeopkjmmmodpaaDoorEy00
import Derived.Test.YtpeopkjmmmodpaaDoorProg
import Derived.ProofKit
import Derived.OpenShut
import Derived.Lib.SmallJoins
import Derived.Deep.Slices
set_option linter.unusedVariables false
set_option maxRecDepth 100000
namespace Go.Proofs.YtpeopkjmmmodpaaDoor
section
open Go.Lib
def unitD (c : Nat) : Nat := if c = 100 then 1 else if c = 119 then 7 else if c = 109 then 30 else if c = 121 then 365 else 0
def daysD (n : Int) (c : Nat) : Int × Int :=
  if n < 0 ∨ unitD c = 0 then (0, 1) else if (1048576 : Int) / (unitD c : Int) < n then (0, 16) else (n * (unitD c : Int), 0)
def numF : Nat → List UInt8 → Option Nat
  | n, [] => some n
  | n, b :: l => if 48 ≤ b.toNat ∧ b.toNat ≤ 57 then numF (10 * n + (b.toNat - 48)) l else none
def numD (l : List UInt8) : Option Nat := if l.length < 1 ∨ 7 < l.length ∨ (l.head? = some 48 ∧ 1 < l.length) then none else numF 0 l
def parseD (l : List UInt8) : Int × Int :=
  match l.getLast? with
  | none => (0, 2)
  | some c => if unitD c.toNat = 0 then (0, 2) else match numD l.dropLast with
    | none => (0, 2)
    | some n => daysD (n : Int) c.toNat
def greatD (d : Nat) : UInt8 := if d = 0 then 100 else if d % 365 = 0 then 121 else if d % 30 = 0 then 109 else if d % 7 = 0 then 119 else 100
def textD (d : Int) : List UInt8 := if d < 0 ∨ 1048576 < d then [] else decDigits (d.toNat / unitD (greatD d.toNat).toNat) ++ [greatD d.toNat]
def afterD (t d : Int) : Int × Bool := if t < 0 ∨ 1099511627776 < t ∨ d < 0 ∨ 1048576 < d ∨ 1099511627776 < t + d then (0, false) else (t + d, true)
def addD (t n : Int) : Int × Int := if t < 0 ∨ 1099511627776 < t ∨ n < 1 then (0, 1) else if 1099511627776 - t < n then (0, 16) else (t + n, 0)
theorem unit_cases (c : Nat) : unitD c = 0 ∨ (c = 100 ∧ unitD c = 1) ∨ (c = 119 ∧ unitD c = 7) ∨ (c = 109 ∧ unitD c = 30) ∨ (c = 121 ∧ unitD c = 365) := by
  unfold unitD
  split
  · simp [*]
  · split
    · simp [*]
    · split
      · simp [*]
      · split
        · simp [*]
        · simp
theorem great_unit (d : Nat) : (greatD d = 100 ∧ unitD (greatD d).toNat = 1) ∨ (greatD d = 119 ∧ unitD (greatD d).toNat = 7) ∨ (greatD d = 109 ∧ unitD (greatD d).toNat = 30) ∨ (greatD d = 121 ∧ unitD (greatD d).toNat = 365) := by
  unfold greatD
  repeat' split
  all_goals simp [unitD]
theorem great_pos (d : Nat) : 1 ≤ unitD (greatD d).toNat ∧ unitD (greatD d).toNat ≤ 365 := by
  rcases great_unit d with h | h | h | h <;> (rw [h.2]; omega)
theorem great_divides (d : Nat) : d % unitD (greatD d).toNat = 0 := by
  unfold greatD
  repeat' split
  all_goals (simp [unitD]; try omega)
theorem great_most (n : Nat) (c : Nat) (hn : 0 < n * unitD c) : unitD c ≤ unitD (greatD (n * unitD c)).toNat := by
  rcases unit_cases c with h | ⟨_, h⟩ | ⟨_, h⟩ | ⟨_, h⟩ | ⟨_, h⟩
  · rw [h]; omega
  · rw [h]; exact (great_pos _).1
  all_goals
    rw [h] at hn ⊢
    unfold greatD
    rw [if_neg (by omega)]
    repeat' split
    all_goals first | omega | (simp [unitD]; done) | (exfalso; omega)
theorem numF_append : ∀ (l m : List UInt8) (n : Nat), numF n (l ++ m) = (numF n l).bind fun k => numF k m
  | [], m, n => rfl
  | b :: l, m, n => by
    simp only [List.cons_append, numF]
    by_cases h : 48 ≤ b.toNat ∧ b.toNat ≤ 57
    · rw [if_pos h, if_pos h]; exact numF_append l m _
    · rw [if_neg h, if_neg h]; rfl
theorem digit_nat (k : Nat) (h : k < 10) : (UInt8.ofNat (48 + k)).toNat = 48 + k := by
  rw [UInt8.toNat_ofNat']; omega
theorem numF_digits (k : Nat) : numF 0 (decDigits k) = some k := by
  induction k using Nat.strongRecOn with
  | _ k ih =>
    by_cases h : k < 10
    · rw [decDigits_one h]
      simp only [numF]
      rw [digit_nat k h, if_pos (by omega)]
      congr 1
      omega
    · rw [decDigits, dif_neg h, numF_append, ih (k / 10) (by omega)]
      simp only [Option.bind_some, numF]
      rw [digit_nat (k % 10) (by omega), if_pos (by omega)]
      congr 1
      omega
theorem digits_pos (k : Nat) : 1 ≤ (decDigits k).length := by rw [decDigits_length]; exact nDigits_pos k
theorem digits_head (k : Nat) (h : 1 ≤ k) : (decDigits k).head? ≠ some 48 := by
  induction k using Nat.strongRecOn with
  | _ k ih =>
    by_cases h9 : k < 10
    · rw [decDigits_one h9]
      intro e
      simp only [List.head?_cons, Option.some.injEq] at e
      have := congrArg UInt8.toNat e
      rw [digit_nat k h9] at this
      simp at this
      omega
    · rw [decDigits, dif_neg h9]
      have := ih (k / 10) (by omega) (by omega)
      have hp := digits_pos (k / 10)
      cases hd : decDigits (k / 10) with
      | nil => rw [hd] at hp; simp at hp
      | cons a t => rw [hd] at this; simpa using this
theorem numF_bounds : ∀ (l : List UInt8) (n k : Nat), numF n l = some k → n * 10 ^ l.length ≤ k ∧ k < (n + 1) * 10 ^ l.length
  | [], n, k, h => by
    simp only [numF, Option.some.injEq] at h
    subst h
    simp
  | b :: l, n, k, h => by
    simp only [numF] at h
    by_cases hb : 48 ≤ b.toNat ∧ b.toNat ≤ 57
    · rw [if_pos hb] at h
      obtain ⟨h1, h2⟩ := numF_bounds l _ _ h
      rw [List.length_cons, Nat.pow_succ]
      generalize 10 ^ l.length = p at h1 h2 ⊢
      constructor
      · calc n * (p * 10) = 10 * n * p := by rw [Nat.mul_comm p 10, ← Nat.mul_assoc, Nat.mul_comm n 10]
          _ ≤ (10 * n + (b.toNat - 48)) * p := Nat.mul_le_mul_right _ (by omega)
          _ ≤ k := h1
      · calc k < (10 * n + (b.toNat - 48) + 1) * p := h2
          _ ≤ ((n + 1) * 10) * p := Nat.mul_le_mul_right _ (by omega)
          _ = (n + 1) * (p * 10) := by rw [Nat.mul_assoc, Nat.mul_comm 10 p]
    · rw [if_neg hb] at h; cases h
theorem numD_some {l : List UInt8} {n : Nat} (h : numD l = some n) : 1 ≤ l.length ∧ l.length ≤ 7 ∧ (l.head? = some 48 → l.length = 1) ∧ numF 0 l = some n := by
  unfold numD at h
  by_cases hc : l.length < 1 ∨ 7 < l.length ∨ (l.head? = some 48 ∧ 1 < l.length)
  · rw [if_pos hc] at h; cases h
  · rw [if_neg hc] at h
    refine ⟨by omega, by omega, fun hh => ?_, h⟩
    by_cases h1 : 1 < l.length
    · exact absurd (.inr (.inr ⟨hh, h1⟩)) hc
    · omega
theorem numD_length {l : List UInt8} {n : Nat} (h : numD l = some n) : l.length = nDigits n := by
  obtain ⟨h1, h7, hh, hn⟩ := numD_some h
  cases l with
  | nil => simp at h1
  | cons b l =>
    simp only [numF] at hn
    by_cases hb : 48 ≤ b.toNat ∧ b.toNat ≤ 57
    · rw [if_pos hb] at hn
      obtain ⟨l1, l2⟩ := numF_bounds l _ _ hn
      by_cases h0 : b.toNat = 48
      · have hb48 : b = 48 := UInt8.toNat.inj (by rw [h0]; rfl)
        have := hh (by rw [hb48]; rfl)
        have hl : l = [] := List.length_eq_zero_iff.1 (by simpa using this)
        subst hl
        simp only [numF, Option.some.injEq] at hn
        rw [nDigits_small (by omega)]
        rfl
      · refine (nDigits_unique l.length n ?_ ?_).symm
        · calc 10 ^ l.length = 1 * 10 ^ l.length := (Nat.one_mul _).symm
            _ ≤ (10 * 0 + (b.toNat - 48)) * 10 ^ l.length := Nat.mul_le_mul_right _ (by omega)
            _ ≤ n := l1
        · calc n < (10 * 0 + (b.toNat - 48) + 1) * 10 ^ l.length := l2
            _ ≤ 10 * 10 ^ l.length := Nat.mul_le_mul_right _ (by omega)
            _ = 10 ^ (l.length + 1) := by rw [Nat.pow_succ, Nat.mul_comm]
    · rw [if_neg hb] at hn; cases hn
theorem nDigits_mono : ∀ (a b : Nat), a ≤ b → nDigits a ≤ nDigits b := by
  intro a
  induction a using Nat.strongRecOn with
  | _ a ih =>
    intro b hab
    by_cases ha : a < 10
    · rw [nDigits_small ha]; exact nDigits_pos b
    · rw [nDigits_big ha, nDigits_big (u := b) (by omega)]
      have := ih (a / 10) (by omega) (b / 10) (Nat.div_le_div_right hab)
      omega
theorem nDigits_seven (k : Nat) (h : k ≤ 1048576) : nDigits k ≤ 7 := by
  have := nDigits_mono k 1048576 h
  have e : nDigits 1048576 = 7 := nDigits_unique 6 _ (by decide) (by decide)
  omega
theorem numD_digits (k : Nat) (h : k ≤ 1048576) : numD (decDigits k) = some k := by
  unfold numD
  have h1 := digits_pos k
  have h7 := nDigits_seven k h
  rw [← decDigits_length] at h7
  rw [if_neg, numF_digits]
  rintro (a | a | ⟨a, b⟩)
  · omega
  · omega
  · by_cases h0 : 1 ≤ k
    · exact digits_head k h0 a
    · have hk : k = 0 := by omega
      subst hk
      rw [decDigits_one (by omega)] at b
      simp at b
theorem text_none (d : Int) : textD d = [] ↔ (d < 0 ∨ 1048576 < d) := by
  unfold textD
  by_cases h : d < 0 ∨ 1048576 < d
  · rw [if_pos h]; simp [h]
  · rw [if_neg h]; simp [h]
theorem parse_text (d : Int) (h0 : 0 ≤ d) (h1 : d ≤ 1048576) : parseD (textD d) = (d, 0) := by
  obtain ⟨k, rfl⟩ : ∃ k : Nat, d = (k : Int) := ⟨d.toNat, by omega⟩
  unfold textD parseD
  rw [if_neg (by omega)]
  simp only [Int.toNat_natCast]
  rw [List.getLast?_concat, List.dropLast_concat]
  have hp := great_pos k
  have hd := great_divides k
  generalize greatD k = c at hp hd ⊢
  simp only
  rw [if_neg (by omega), numD_digits _ (Nat.le_trans (Nat.div_le_self _ _) (by omega))]
  simp only
  unfold daysD
  generalize unitD c.toNat = u at hp hd ⊢
  have hq : k / u ≤ 1048576 / u := Nat.div_le_div_right (by omega)
  have hm : k / u * u = k := by
    have := Nat.div_add_mod k u
    rw [hd, Nat.mul_comm] at this
    omega
  have hneg : ¬ (((k / u : Nat) : Int) < 0 ∨ u = 0) := by
    generalize k / u = q
    omega
  rw [if_neg hneg]
  have e1 : ¬ ((1048576 : Int) / (u : Int) < ((k / u : Nat) : Int)) := by
    have : (1048576 : Int) / (u : Int) = ((1048576 / u : Nat) : Int) := rfl
    rw [this]
    omega
  rw [if_neg e1]
  have e2 : ((k / u : Nat) : Int) * (u : Int) = (k : Int) := by
    rw [← Int.natCast_mul, hm]
  rw [e2]
theorem text_parse (l : List UInt8) (h : (parseD l).2 = 0) : 0 ≤ (parseD l).1 ∧ (parseD l).1 ≤ 1048576 ∧ (textD (parseD l).1).length ≤ l.length := by
  unfold parseD at h ⊢
  cases hl : l.getLast? with
  | none => rw [hl] at h; simp at h
  | some c =>
    rw [hl] at h
    simp only at h ⊢
    by_cases hu : unitD c.toNat = 0
    · rw [if_pos hu] at h; simp at h
    · rw [if_neg hu] at h ⊢
      cases hn : numD l.dropLast with
      | none => rw [hn] at h; simp at h
      | some n =>
        rw [hn] at h
        simp only at h ⊢
        unfold daysD at h ⊢
        have hneg : ¬ ((n : Int) < 0 ∨ unitD c.toNat = 0) := by omega
        rw [if_neg hneg] at h ⊢
        by_cases hb : (1048576 : Int) / (unitD c.toNat : Int) < (n : Int)
        · rw [if_pos hb] at h; simp at h
        · rw [if_neg hb]
          have hlen : l.dropLast.length = nDigits n := numD_length hn
          have hne : 0 < l.length := by cases l with
            | nil => simp at hl
            | cons a t => simp
          rw [List.length_dropLast] at hlen
          have hnp := nDigits_pos n
          have hq : n ≤ 1048576 / unitD c.toNat := by
            have : (1048576 : Int) / (unitD c.toNat : Int) = ((1048576 / unitD c.toNat : Nat) : Int) := rfl
            rw [this] at hb
            omega
          have hm : n * unitD c.toNat ≤ 1048576 := Nat.le_trans (Nat.mul_le_mul_right _ hq) (Nat.div_mul_le_self _ _)
          have e2 : (n : Int) * (unitD c.toNat : Int) = ((n * unitD c.toNat : Nat) : Int) := by rw [Int.natCast_mul]
          rw [e2]
          refine ⟨by omega, by omega, ?_⟩
          unfold textD
          rw [if_neg (by omega)]
          simp only [Int.toNat_natCast, List.length_append, List.length_singleton, decDigits_length]
          have hle : n * unitD c.toNat / unitD (greatD (n * unitD c.toNat)).toNat ≤ n := by
            by_cases h0 : n * unitD c.toNat = 0
            · rw [h0]; simp
            · have hg := great_most n c.toNat (by omega)
              refine Nat.div_le_of_le_mul ?_
              rw [Nat.mul_comm (unitD (greatD (n * unitD c.toNat)).toNat) n]
              exact Nat.mul_le_mul_left n hg
          have := nDigits_mono _ _ hle
          omega
end
section
open Go.Lib
abbrev Wv := List UInt8
def wAll : Wv := [97, 108, 108]
def wCase : Wv := [99, 97, 115, 101]
def wSubj : Wv := [115, 117, 98, 106, 101, 99, 116]
def wClass : Wv := [99, 108, 97, 115, 115]
def wTime : Wv := [116, 105, 109, 101]
def wNot : Wv := [110, 111, 116]
def wAnd : Wv := [97, 110, 100]
def wOr : Wv := [111, 114]
def wOpen : Wv := [40]
def wClose : Wv := [41]
def opS : (f : Nat) → Sc f → Int
  | 0, x => nomatch x
  | _ + 1, (x : Ns _) => x.op
theorem opS_eq (f : Nat) (x : Ns (Sc f)) : opS (f + 1) x = x.op := rfl
def sepW (s : Wv) : List (List Wv) → List Wv
  | [] => []
  | [t] => t
  | t :: u :: ts => t ++ s :: sepW s (u :: ts)
def spanV (a b : Int) : Wv := decDigits a.toNat ++ 45 :: decDigits b.toNat
def bracedW (op k : Int) : Bool := decide (k = 7 ∨ (k = 6 ∧ op ≠ 7))
def toksW : (f : Nat) → Sc f → List Wv
  | 0, x => nomatch x
  | f + 1, (x : Ns (Sc f)) =>
    if x.op = 1 then [wAll] else if x.op = 2 then [wCase, x.name] else if x.op = 3 then [wSubj, x.name] else if x.op = 4 then [wClass, x.name]
    else if x.op = 5 then [wTime, spanV x.from_ x.to_]
    else if x.op = 8 then wNot :: (match x.kids with | [] => [] | k :: _ => if bracedW 8 (opS f k) = true then wOpen :: (toksW f k ++ [wClose]) else toksW f k)
    else sepW (if x.op = 7 then wOr else wAnd) (x.kids.map fun k => if bracedW x.op (opS f k) = true then wOpen :: (toksW f k ++ [wClose]) else toksW f k)
def kidW (f : Nat) (op : Int) (k : Sc f) : List Wv := if bracedW op (opS f k) = true then wOpen :: (toksW f k ++ [wClose]) else toksW f k
theorem toksW_eq (f : Nat) (x : Ns (Sc f)) : toksW (f + 1) x =
    if x.op = 1 then [wAll] else if x.op = 2 then [wCase, x.name] else if x.op = 3 then [wSubj, x.name] else if x.op = 4 then [wClass, x.name]
    else if x.op = 5 then [wTime, spanV x.from_ x.to_]
    else if x.op = 8 then wNot :: (match x.kids with | [] => [] | k :: _ => kidW f 8 k)
    else sepW (if x.op = 7 then wOr else wAnd) (x.kids.map (kidW f x.op)) := rfl
def joinW : List Wv → List UInt8
  | [] => []
  | [w] => w
  | w :: v :: ws => w ++ 32 :: joinW (v :: ws)
def wordsW : List UInt8 → List Wv
  | [] => [[]]
  | b :: l => match wordsW l with
    | [] => [[b]]
    | w :: ws => if b = 32 then [] :: w :: ws else (b :: w) :: ws
def textSc (f : Nat) (x : Sc f) : List UInt8 × Int := if mayS f x = true then (joinW (toksW f x), 0) else ([], 1)
def numT (l : Wv) : Option Nat := if l.length < 1 ∨ 13 < l.length ∨ (l.head? = some 48 ∧ 1 < l.length) then none else numF 0 l
def cutW : Wv → Option (Wv × Wv)
  | [] => none
  | b :: l => if b = 45 then some ([], l) else (cutW l).map fun p => (b :: p.1, p.2)
def timeW (w : Wv) : Option (Nat × Nat) := (cutW w).bind fun p => (numT p.1).bind fun a => (numT p.2).bind fun b => if a ≤ b ∧ b ≤ 1099511627776 then some (a, b) else none
def manyW {α : Type} (g : List Wv → Option (α × List Wv)) (s : Wv) : Nat → List Wv → Option (List α × List Wv)
  | 0, _ => none
  | n + 1, ws => match g ws with
    | none => none
    | some (x, []) => some ([x], [])
    | some (x, w :: rest) => if w = s then (manyW g s n rest).map fun p => (x :: p.1, p.2) else some ([x], w :: rest)
def manyL {α : Type} (g : List Wv → Option (α × List Wv)) (s : Wv) (ws : List Wv) : Option (List α × List Wv) := manyW g s (ws.length + 1) ws
def oneV {f : Nat} (op : Int) (l : List (Sc f)) : Sc (f + 1) := match l with
  | [x] => liftS f x
  | l => (⟨op, [], 0, 0, l⟩ : Ns (Sc f))
def andV {f : Nat} (g : List Wv → Option (Sc f × List Wv)) (ws : List Wv) : Option (Sc (f + 1) × List Wv) := (manyL g wAnd ws).map fun p => (oneV 6 p.1, p.2)
def orV {f : Nat} (g : List Wv → Option (Sc f × List Wv)) (ws : List Wv) : Option (Sc (f + 2) × List Wv) := (manyL (andV g) wOr ws).map fun p => (oneV 7 p.1, p.2)
def namesOp (w : Wv) : Int := if w = wCase then 2 else if w = wSubj then 3 else if w = wClass then 4 else 0
def leafS {f : Nat} (op : Int) (n : Wv) (a b : Int) : Sc (f + 1) := (⟨op, n, a, b, []⟩ : Ns (Sc f))
def notsS {f : Nat} (x : Sc f) : Sc (f + 2) := liftS (f + 1) (⟨8, [], 0, 0, [x]⟩ : Ns (Sc f))
def factW : (d : Nat) → List Wv → Option (Sc (2 * d + 1) × List Wv)
  | 0 => fun _ => none
  | d + 1 => fun ws => match ws with
    | [] => none
    | w :: ws =>
      if w = wNot then (factW d ws).map fun p => (notsS p.1, p.2)
      else if w = wOpen then (orV (factW d) ws).bind fun p => match p.2 with
        | [] => none
        | c :: rest => if c = wClose then some (p.1, rest) else none
      else if w = wAll then some (leafS 1 [] 0 0, ws)
      else match ws with
        | [] => none
        | n :: rest =>
          if w = wTime then (timeW n).map fun p => (leafS 5 [] (p.1 : Int) (p.2 : Int), rest)
          else if namesOp w = 0 ∨ nameS n = false then none else some (leafS (namesOp w) n 0 0, rest)
def parseSc (s : List UInt8) : Ns (Sc 84) × Int :=
  if 1000 < s.length then (zeroNs, 3)
  else match orV (factW 41) (wordsW s) with
    | some (x, []) => if mayS 85 x = true then (x, 0) else (zeroNs, 1)
    | _ => (zeroNs, 2)
/-! Reading takes words. -/
def Shrinks {α : Type} (g : List Wv → Option (α × List Wv)) : Prop := ∀ ws x rest, g ws = some (x, rest) → rest.length < ws.length
theorem manyW_shrinks {α : Type} {g : List Wv → Option (α × List Wv)} {s : Wv} (hg : Shrinks g) : ∀ (n : Nat), Shrinks (manyW g s n)
  | 0 => fun ws x rest h => by cases h
  | n + 1 => fun ws x rest h => by
    rw [manyW] at h
    cases hq : g ws with
    | none => rw [hq] at h; cases h
    | some p =>
      obtain ⟨y, r⟩ := p
      have h1 := hg ws y r hq
      rw [hq] at h
      cases r with
      | nil =>
        dsimp only at h
        injection h with h; injection h with _ h; rw [← h]; exact h1
      | cons w r =>
        dsimp only at h
        split at h
        · cases hm : manyW g s n r with
          | none => rw [hm] at h; cases h
          | some p2 =>
            rw [hm] at h
            simp only [Option.map_some] at h
            injection h with h; injection h with _ h
            have := manyW_shrinks hg n r p2.1 p2.2 hm
            rw [← h]
            simp at h1; omega
        · injection h with h; injection h with _ h; rw [← h]; exact h1
theorem manyW_gas {α : Type} {g : List Wv → Option (α × List Wv)} {s : Wv} (hg : Shrinks g) : ∀ (n m : Nat) (ws : List Wv), ws.length < n → ws.length < m → manyW g s n ws = manyW g s m ws
  | 0, _, ws, h, _ => by omega
  | _ + 1, 0, ws, _, h => by omega
  | n + 1, m + 1, ws, h1, h2 => by
    rw [manyW, manyW]
    cases hq : g ws with
    | none => rfl
    | some p =>
      obtain ⟨y, r⟩ := p
      have hs := hg ws y r hq
      cases r with
      | nil => rfl
      | cons w r =>
        simp at hs
        dsimp only
        rw [manyW_gas hg n m r (by omega) (by omega)]
theorem manyL_eq {α : Type} {g : List Wv → Option (α × List Wv)} {s : Wv} (hg : Shrinks g) (ws : List Wv) : manyL g s ws = match g ws with
    | none => none
    | some (x, []) => some ([x], [])
    | some (x, w :: rest) => if w = s then (manyL g s rest).map fun p => (x :: p.1, p.2) else some ([x], w :: rest) := by
  unfold manyL
  rw [manyW]
  cases hq : g ws with
  | none => rfl
  | some p =>
    obtain ⟨y, r⟩ := p
    have hs := hg ws y r hq
    cases r with
    | nil => rfl
    | cons w r =>
      simp at hs
      dsimp only
      rw [manyW_gas hg ws.length (r.length + 1) r (by omega) (by omega)]
theorem andW_shrinks {f : Nat} {g : List Wv → Option (Sc f × List Wv)} (hg : Shrinks g) : Shrinks (andV g) := fun ws x rest h => by
  unfold andV manyL at h
  cases hm : manyW g wAnd (ws.length + 1) ws with
  | none => rw [hm] at h; cases h
  | some p =>
    rw [hm] at h
    injection h with h; injection h with _ h
    rw [← h]; exact manyW_shrinks hg _ _ _ _ hm
theorem orW_shrinks {f : Nat} {g : List Wv → Option (Sc f × List Wv)} (hg : Shrinks g) : Shrinks (orV g) := fun ws x rest h => by
  unfold orV manyL at h
  cases hm : manyW (andV g) wOr (ws.length + 1) ws with
  | none => rw [hm] at h; cases h
  | some p =>
    rw [hm] at h
    injection h with h; injection h with _ h
    rw [← h]; exact manyW_shrinks (andW_shrinks hg) _ _ _ _ hm
theorem factW_shrinks : ∀ (d : Nat), Shrinks (factW d)
  | 0 => fun ws x rest h => by cases h
  | d + 1 => fun ws x rest h => by
    rw [factW.eq_2] at h
    cases ws with
    | nil => cases h
    | cons w ws =>
      dsimp only at h
      split at h
      · cases hm : factW d ws with
        | none => rw [hm] at h; cases h
        | some p =>
          rw [hm] at h
          injection h with h; injection h with _ h
          have := factW_shrinks d _ _ _ hm
          rw [← h]; simp; omega
      · split at h
        · cases hm : orV (factW d) ws with
          | none => rw [hm] at h; cases h
          | some p =>
            rw [hm] at h
            have := orW_shrinks (factW_shrinks d) _ _ _ hm
            rw [Option.bind_some] at h
            cases hp : p.2 with
            | nil => rw [hp] at h; cases h
            | cons c r =>
              rw [hp] at h this
              dsimp only at h
              split at h
              · injection h with h; injection h with _ h
                rw [← h]; simp at this ⊢; omega
              · cases h
        · split at h
          · injection h with h; injection h with _ h
            rw [← h]; simp
          · cases ws with
            | nil => cases h
            | cons n r =>
              dsimp only at h
              split at h
              · cases hm : timeW n with
                | none => rw [hm] at h; cases h
                | some p =>
                  rw [hm] at h
                  injection h with h; injection h with _ h
                  rw [← h]; simp; omega
              · split at h
                · cases h
                · injection h with h; injection h with _ h
                  rw [← h]; simp; omega
end
section
open Go.Lib
/-! Words that are joined are parted again. -/
theorem wwords_one : ∀ (w : Wv), (32 : UInt8) ∉ w → wordsW w = [w]
  | [], _ => rfl
  | b :: l, h => by
    have hb : ¬ b = 32 := fun e => h (by rw [e]; exact List.mem_cons_self ..)
    have hl := wwords_one l fun e => h (List.mem_cons_of_mem _ e)
    rw [wordsW, hl]
    exact if_neg hb
theorem words_more : ∀ (w : Wv) (l : List UInt8), (32 : UInt8) ∉ w → wordsW (w ++ 32 :: l) = w :: wordsW l
  | [], l, _ => by
    rw [List.nil_append, wordsW]
    cases hq : wordsW l with
    | nil =>
      exfalso
      cases l with
      | nil => cases hq
      | cons b l =>
        rw [wordsW] at hq
        split at hq
        · cases hq
        · split at hq <;> cases hq
    | cons v vs => exact if_pos rfl
  | b :: w, l, h => by
    have hb : ¬ b = 32 := fun e => h (by rw [e]; exact List.mem_cons_self ..)
    have hl := words_more w l fun e => h (List.mem_cons_of_mem _ e)
    rw [List.cons_append, wordsW, hl]
    exact if_neg hb
theorem words_join : ∀ (ws : List Wv), ws ≠ [] → (∀ w ∈ ws, (32 : UInt8) ∉ w) → wordsW (joinW ws) = ws
  | [], h, _ => absurd rfl h
  | [w], _, h => by rw [joinW]; exact wwords_one w (h w (List.mem_cons_self ..))
  | w :: v :: ws, _, h => by
    rw [joinW, words_more w _ (h w (List.mem_cons_self ..)), words_join (v :: ws) (by simp) fun x hx => h x (List.mem_cons_of_mem _ hx)]
/-! Digits. -/
theorem digits_ok : ∀ (k : Nat), ∀ b ∈ decDigits k, 48 ≤ b.toNat ∧ b.toNat ≤ 57 := by
  intro k
  induction k using Nat.strongRecOn with
  | _ k ih =>
    intro b hb
    by_cases h : k < 10
    · rw [decDigits_one h, List.mem_singleton] at hb
      rw [hb, digit_nat k h]; omega
    · rw [decDigits, dif_neg h, List.mem_append] at hb
      rcases hb with hb | hb
      · exact ih (k / 10) (by omega) b hb
      · rw [List.mem_singleton] at hb
        rw [hb, digit_nat (k % 10) (by omega)]; omega
theorem digits_len {k : Nat} (h : k ≤ 1099511627776) : (decDigits k).length ≤ 13 := by
  rw [decDigits_length]
  have := nDigits_mono k 1099511627776 h
  have e : nDigits 1099511627776 = 13 := nDigits_unique 12 _ (by decide) (by decide)
  omega
theorem numT_digits {k : Nat} (h : k ≤ 1099511627776) : numT (decDigits k) = some k := by
  unfold numT
  have h1 := digits_pos k
  have h2 := digits_len h
  rw [if_neg, numF_digits]
  rintro (h3 | h3 | ⟨h3, h4⟩)
  · omega
  · omega
  · by_cases hk : 1 ≤ k
    · exact digits_head k hk h3
    · obtain rfl : k = 0 := by omega
      rw [decDigits_one (by omega)] at h4
      simp at h4
theorem cut_at : ∀ (a : Wv) (b : Wv), (45 : UInt8) ∉ a → cutW (a ++ 45 :: b) = some (a, b)
  | [], b, _ => by rw [List.nil_append, cutW, if_pos rfl]
  | c :: a, b, h => by
    have hc : ¬ c = 45 := fun e => h (by rw [e]; exact List.mem_cons_self ..)
    rw [List.cons_append, cutW, if_neg hc, cut_at a b fun e => h (List.mem_cons_of_mem _ e)]
    rfl
theorem time_span {a b : Int} (h0 : 0 ≤ a) (h1 : a ≤ b) (h2 : b ≤ 1099511627776) : timeW (spanV a b) = some (a.toNat, b.toNat) := by
  unfold timeW spanV
  rw [cut_at _ _ fun h => by have := digits_ok _ _ h; simp at this]
  simp only [Option.bind_some]
  rw [numT_digits (by omega), Option.bind_some, numT_digits (by omega), Option.bind_some, if_pos (by omega)]
/-! No word of a scope has a blank; none is missing. -/
theorem sep_mem {s w : Wv} : ∀ {ts : List (List Wv)}, w ∈ sepW s ts → w = s ∨ ∃ t ∈ ts, w ∈ t
  | [], h => by cases h
  | [t], h => .inr ⟨t, List.mem_cons_self .., h⟩
  | t :: u :: ts, h => by
    rw [sepW, List.mem_append, List.mem_cons] at h
    rcases h with h | h | h
    · exact .inr ⟨t, List.mem_cons_self .., h⟩
    · exact .inl h
    · rcases sep_mem h with h | ⟨x, hx, h⟩
      · exact .inl h
      · exact .inr ⟨x, List.mem_cons_of_mem _ hx, h⟩
theorem name_blank {n : Wv} (h : nameS n = true) : (32 : UInt8) ∉ n := fun hm => by
  have := ((name_iff n).1 h).2.2 _ hm
  exact absurd this (by decide)
theorem span_blank (a b : Int) : (32 : UInt8) ∉ spanV a b := fun h => by
  unfold spanV at h
  rw [List.mem_append, List.mem_cons] at h
  rcases h with h | h | h
  · have := digits_ok _ _ h; simp at this
  · cases h
  · have := digits_ok _ _ h; simp at this
theorem fits_named {f : Nat} {x : Ns (Sc f)} (h : fitsS x = true) (hk : x.op = 2 ∨ x.op = 3 ∨ x.op = 4) : nameS x.name = true ∧ x.from_ = 0 ∧ x.to_ = 0 ∧ x.kids = [] := by
  obtain ⟨_, h2, h3, h4⟩ := (fits_iff x).1 h
  have hn : namedS x.op = true := decide_eq_true hk
  have hm : ¬ manyS x.op = true := by unfold manyS; rw [decide_eq_true_eq]; omega
  rw [if_pos hn] at h2
  rw [if_neg (by omega)] at h3
  unfold kidsOk at h4
  rw [if_neg hm, if_neg (by omega)] at h4
  have h3 := of_decide_eq_true h3
  exact ⟨h2, h3.1, h3.2, List.eq_nil_of_length_eq_zero (of_decide_eq_true h4)⟩
theorem fits_plain {f : Nat} {x : Ns (Sc f)} (h : fitsS x = true) (hk : ¬ (x.op = 2 ∨ x.op = 3 ∨ x.op = 4)) : x.name = [] := by
  obtain ⟨_, h2, _, _⟩ := (fits_iff x).1 h
  have hn : ¬ namedS x.op = true := by unfold namedS; rw [decide_eq_true_eq]; exact hk
  rw [if_neg hn] at h2
  exact of_decide_eq_true h2
theorem fits_time {f : Nat} {x : Ns (Sc f)} (h : fitsS x = true) (hk : x.op = 5) : 0 ≤ x.from_ ∧ x.from_ ≤ x.to_ ∧ x.to_ ≤ 1099511627776 ∧ x.kids = [] := by
  obtain ⟨_, _, h3, h4⟩ := (fits_iff x).1 h
  rw [if_pos hk] at h3
  unfold kidsOk at h4
  rw [if_neg (by unfold manyS; rw [decide_eq_true_eq]; omega), if_neg (by omega)] at h4
  have h3 := of_decide_eq_true h3
  exact ⟨h3.1, h3.2.1, h3.2.2, List.eq_nil_of_length_eq_zero (of_decide_eq_true h4)⟩
theorem fits_zero {f : Nat} {x : Ns (Sc f)} (h : fitsS x = true) (hk : ¬ x.op = 5) : x.from_ = 0 ∧ x.to_ = 0 := by
  obtain ⟨_, _, h3, _⟩ := (fits_iff x).1 h
  rw [if_neg hk] at h3
  exact of_decide_eq_true h3
theorem fits_all {f : Nat} {x : Ns (Sc f)} (h : fitsS x = true) (hk : x.op = 1) : x.kids = [] := by
  obtain ⟨_, _, _, h4⟩ := (fits_iff x).1 h
  unfold kidsOk at h4
  rw [if_neg (by unfold manyS; rw [decide_eq_true_eq]; omega), if_neg (by omega)] at h4
  exact List.eq_nil_of_length_eq_zero (of_decide_eq_true h4)
theorem fits_not {f : Nat} {x : Ns (Sc f)} (h : fitsS x = true) (hk : x.op = 8) : ∃ k, x.kids = [k] := by
  obtain ⟨_, _, _, h4⟩ := (fits_iff x).1 h
  unfold kidsOk at h4
  rw [if_neg (by unfold manyS; rw [decide_eq_true_eq]; omega), if_pos hk] at h4
  have h4 := of_decide_eq_true h4
  match x.kids, h4 with
  | [k], _ => exact ⟨k, rfl⟩
theorem wfits_many {f : Nat} {x : Ns (Sc f)} (h : fitsS x = true) (hk : x.op = 6 ∨ x.op = 7) : 2 ≤ x.kids.length := by
  obtain ⟨_, _, _, h4⟩ := (fits_iff x).1 h
  unfold kidsOk at h4
  rw [if_pos (by unfold manyS; exact decide_eq_true hk)] at h4
  exact of_decide_eq_true h4
theorem wok_fits {f : Nat} {x : Ns (Sc f)} {d : Int} (h : okS (f + 1) x d = true) : 1 ≤ d ∧ fitsS x = true ∧ ∀ k ∈ x.kids, okS f k (d - 1) = true := by
  rw [okS_eq] at h
  simp only [Bool.and_eq_true, decide_eq_true_eq, List.all_eq_true] at h
  exact ⟨h.1.1, h.1.2, h.2⟩
theorem toks_blank : ∀ (f : Nat) (x : Sc f) (d : Int), okS f x d = true → ∀ w ∈ toksW f x, (32 : UInt8) ∉ w
  | 0, x, _, _ => nomatch x
  | f + 1, (x : Ns (Sc f)), d, h => by
    obtain ⟨_, hf, hk⟩ := wok_fits h
    have hkid : ∀ op, ∀ k ∈ x.kids, ∀ w ∈ kidW f op k, (32 : UInt8) ∉ w := fun op k hx w hw => by
      have ih := toks_blank f k (d - 1) (hk k hx)
      unfold kidW at hw
      split at hw
      · rw [List.mem_cons, List.mem_append, List.mem_singleton] at hw
        rcases hw with rfl | hw | rfl
        · decide
        · exact ih w hw
        · decide
      · exact ih w hw
    intro w hw
    rw [toksW_eq] at hw
    by_cases h1 : x.op = 1
    · rw [if_pos h1, List.mem_singleton] at hw
      rw [hw]; decide
    rw [if_neg h1] at hw
    by_cases h2 : x.op = 2
    · rw [if_pos h2] at hw
      simp at hw
      rcases hw with rfl | rfl
      · decide
      · exact name_blank (fits_named hf (.inl h2)).1
    rw [if_neg h2] at hw
    by_cases h3 : x.op = 3
    · rw [if_pos h3] at hw
      simp at hw
      rcases hw with rfl | rfl
      · decide
      · exact name_blank (fits_named hf (.inr (.inl h3))).1
    rw [if_neg h3] at hw
    by_cases h4 : x.op = 4
    · rw [if_pos h4] at hw
      simp at hw
      rcases hw with rfl | rfl
      · decide
      · exact name_blank (fits_named hf (.inr (.inr h4))).1
    rw [if_neg h4] at hw
    by_cases h5 : x.op = 5
    · rw [if_pos h5] at hw
      simp at hw
      rcases hw with rfl | rfl
      · decide
      · exact span_blank _ _
    rw [if_neg h5] at hw
    by_cases h8 : x.op = 8
    · rw [if_pos h8] at hw
      obtain ⟨k, ek⟩ := fits_not hf h8
      rw [ek, List.mem_cons] at hw
      rcases hw with rfl | hw
      · decide
      · exact hkid 8 k (by rw [ek]; simp) w hw
    rw [if_neg h8] at hw
    rcases sep_mem hw with rfl | ⟨t, ht, hw⟩
    · split <;> decide
    · obtain ⟨k, hx, rfl⟩ := List.mem_map.1 ht
      exact hkid x.op k hx w hw
theorem sep_ne {s : Wv} : ∀ {ts : List (List Wv)}, ts ≠ [] → (∀ t ∈ ts, t ≠ []) → sepW s ts ≠ []
  | [], h, _ => absurd rfl h
  | [t], _, h => by rw [sepW]; exact h t (List.mem_cons_self ..)
  | t :: u :: ts, _, h => by rw [sepW]; simp
theorem kid_ne {f : Nat} {op : Int} {k : Sc f} (h : toksW f k ≠ []) : kidW f op k ≠ [] := by
  unfold kidW
  split
  · simp
  · exact h
theorem toks_ne : ∀ (f : Nat) (x : Sc f) (d : Int), okS f x d = true → toksW f x ≠ []
  | 0, x, _, _ => nomatch x
  | f + 1, (x : Ns (Sc f)), d, h => by
    obtain ⟨_, hf, hk⟩ := wok_fits h
    rw [toksW_eq]
    repeat' split
    all_goals first
      | (simp; done)
      | (refine sep_ne ?_ ?_
         · intro e
           rw [List.map_eq_nil_iff] at e
           obtain ⟨hr, _⟩ := (fits_iff x).1 hf
           have := wfits_many hf (by omega)
           rw [e] at this
           simp at this
         · intro t ht
           obtain ⟨k, hx, rfl⟩ := List.mem_map.1 ht
           exact kid_ne (toks_ne f k (d - 1) (hk k hx)))
end
section
open Go.Lib
structure Ev where
  kind : Int
  tick : Int
  a : List UInt8
  b : List UInt8
def zeroE : Ev := ⟨0, 0, [], []⟩
def nameE (n : List UInt8) : Bool := decide (n = []) || nameS n
def mayE (x : Ev) : Bool := decide (1 ≤ x.kind ∧ x.kind ≤ 14) && decide (0 ≤ x.tick ∧ x.tick ≤ 1099511627776) && nameE x.a && nameE x.b
theorem mayE_iff (x : Ev) : mayE x = true ↔ (1 ≤ x.kind ∧ x.kind ≤ 14) ∧ (0 ≤ x.tick ∧ x.tick ≤ 1099511627776) ∧ nameE x.a = true ∧ nameE x.b = true := by
  unfold mayE; simp only [Bool.and_eq_true, decide_eq_true_eq, and_assoc]
theorem nameE_len {n : List UInt8} (h : nameE n = true) : n.length ≤ 16 := by
  unfold nameE at h
  rw [Bool.or_eq_true, decide_eq_true_eq] at h
  rcases h with rfl | h
  · simp
  · exact ((name_iff n).1 h).2.1
def bytesE (x : Ev) : List UInt8 := UInt8.ofNat (x.kind % 256).toNat :: (numb x.tick.toNat ++ (texb x.a ++ texb x.b))
def putE (x : Ev) : List UInt8 × Int := if mayE x = true then (bytesE x, 0) else ([], 1)
def readE : List UInt8 → Option (List UInt8) × Ev
  | [] => (none, zeroE)
  | k :: l =>
    let r1 := cntOf 1099511627776 (some l)
    let r2 := txtOf 16 r1.1
    let r3 := txtOf 16 r2.1
    (r3.1, ⟨(k.toNat : Int), (r1.2 : Int), r2.2, r3.2⟩)
theorem readE_cons (k : UInt8) (l : List UInt8) : readE (k :: l) = ((txtOf 16 (txtOf 16 (cntOf 1099511627776 (some l)).1).1).1, ⟨(k.toNat : Int), ((cntOf 1099511627776 (some l)).2 : Int), (txtOf 16 (cntOf 1099511627776 (some l)).1).2, (txtOf 16 (txtOf 16 (cntOf 1099511627776 (some l)).1).1).2⟩) := rfl
def getE (b : List UInt8) : Ev × Int := if (readE b).1 = some [] ∧ mayE (readE b).2 = true then ((readE b).2, 0) else (zeroE, 2)
theorem ev_there {x : Ev} (h : mayE x = true) : readE (bytesE x) = (some [], x) := by
  obtain ⟨hk, ht, ha, hb⟩ := (mayE_iff x).1 h
  obtain ⟨k, t, a, b⟩ := x
  dsimp only at hk ht ha hb
  unfold bytesE
  dsimp only
  have e1 := sc_cnt_of (m := 1099511627776) (z := t.toNat) (by omega) (by omega) (texb a ++ texb b)
  have e2 := sc_txt_of (nameE_len ha) (texb b)
  have e3 := sc_txt_of (nameE_len hb) []
  rw [List.append_nil] at e3
  have hb2 : ((UInt8.ofNat (k % 256).toNat).toNat : Int) = k := by simp; omega
  rw [readE_cons, e1]
  dsimp only
  rw [e2]
  dsimp only
  rw [e3, hb2, show ((t.toNat : Nat) : Int) = t by omega]
theorem ev_get {x : Ev} (h : mayE x = true) : getE (bytesE x) = (x, 0) := by
  unfold getE
  rw [ev_there h, if_pos ⟨rfl, h⟩]
theorem ev_bytes {l : List UInt8} {x : Ev} (h : readE l = (some [], x)) : bytesE x = l := by
  cases l with
  | nil => injection h with h _; cases h
  | cons k l =>
    rw [readE_cons] at h
    injection h with h1 h2
    subst h2
    cases e1 : cntOf 1099511627776 (some l) with
    | mk s1 t =>
      rw [e1] at h1
      dsimp only at h1 ⊢
      cases e2 : txtOf 16 s1 with
      | mk s2 a =>
        rw [e2] at h1
        dsimp only at h1 ⊢
        cases e3 : txtOf 16 s2 with
        | mk s3 b =>
          rw [e3] at h1
          dsimp only at h1 ⊢
          subst h1
          cases s2 with
          | none => have := sc_txt_none 16; rw [e3] at this; cases this
          | some m2 =>
            cases s1 with
            | none => have := sc_txt_none 16; rw [e2] at this; cases this
            | some m1 =>
              have k1 := sc_cnt_back e1
              have k2 := sc_txt_back e2
              have k3 := sc_txt_back e3
              have hb2 : UInt8.ofNat ((k.toNat : Int) % 256).toNat = k := by
                have hu := k.toNat_lt
                apply UInt8.toNat_inj.1
                simp; omega
              unfold bytesE
              dsimp only
              rw [List.append_nil] at k3
              rw [hb2, Int.toNat_natCast, k3, k2, k1]
theorem ev_back {b : List UInt8} (h : (getE b).2 = 0) : mayE (getE b).1 = true ∧ bytesE (getE b).1 = b := by
  unfold getE at h ⊢
  by_cases hc : (readE b).1 = some [] ∧ mayE (readE b).2 = true
  · rw [if_pos hc]
    exact ⟨hc.2, ev_bytes (Prod.ext hc.1 rfl)⟩
  · rw [if_neg hc] at h; cases h
theorem dig_short : ∀ (f k n : Nat), n < 256 ^ k → (dig f n).length ≤ k
  | 0, k, n, _ => by simp [dig]
  | f + 1, k, n, h => by
    rw [dig]
    split
    · simp
    · rename_i h0
      match k, h with
      | 0, h => simp at h; omega
      | k + 1, h =>
        have := dig_short f k (n / 256) (by rw [Nat.pow_succ] at h; omega)
        simp; omega
theorem ev_len {x : Ev} (h : mayE x = true) : (bytesE x).length ≤ 44 := by
  obtain ⟨hk, ht, ha, hb⟩ := (mayE_iff x).1 h
  have h1 := nameE_len ha
  have h2 := nameE_len hb
  have d1 := dig_short 8 6 x.tick.toNat (by omega)
  have d2 := dig_short 8 1 x.a.length (by omega)
  have d3 := dig_short 8 1 x.b.length (by omega)
  unfold bytesE texb numb
  simp only [List.length_cons, List.length_append]
  omega
def wordE (k : Int) : Wv :=
  if k = 1 then [115, 99, 104, 101, 100, 117, 108, 101] else if k = 2 then [99, 97, 115, 101] else if k = 3 then [115, 117, 98, 106, 101, 99, 116] else if k = 4 then [105, 110, 103, 101, 115, 116]
  else if k = 5 then [109, 105, 108, 101] else if k = 6 then [114, 101, 99, 108, 97, 115, 115] else if k = 7 then [104, 111, 108, 100] else if k = 8 then [114, 101, 108, 101, 97, 115, 101] else if k = 9 then [97, 109, 101, 110, 100]
  else if k = 10 then [112, 117, 114, 103, 101] else if k = 11 then [101, 114, 97, 115, 101] else if k = 12 then [115, 104, 114, 101, 100] else if k = 13 then [107, 101, 101, 112] else [114, 101, 100, 97, 99, 116]
def toksE (x : Ev) : List Wv := decDigits x.tick.toNat :: wordE x.kind :: ((if x.a = [] then [] else [x.a]) ++ (if x.b = [] then [] else [x.b]))
def textE (x : Ev) : List UInt8 := if mayE x = true then joinW (toksE x) else []
def endsE (x : Ev) : Bool := mayE x && decide (x.kind = 10 ∨ x.kind = 11)
theorem kind_cases {k : Int} (h : 1 ≤ k ∧ k ≤ 14) : k = 1 ∨ k = 2 ∨ k = 3 ∨ k = 4 ∨ k = 5 ∨ k = 6 ∨ k = 7 ∨ k = 8 ∨ k = 9 ∨ k = 10 ∨ k = 11 ∨ k = 12 ∨ k = 13 ∨ k = 14 := by omega
theorem word_blank {k : Int} (h : 1 ≤ k ∧ k ≤ 14) : (32 : UInt8) ∉ wordE k := by
  rcases kind_cases h with rfl | rfl | rfl | rfl | rfl | rfl | rfl | rfl | rfl | rfl | rfl | rfl | rfl | rfl <;> decide
theorem word_inj {k m : Int} (h : 1 ≤ k ∧ k ≤ 14) (h' : 1 ≤ m ∧ m ≤ 14) (e : wordE k = wordE m) : k = m := by
  have key : ∀ a b : Fin 14, wordE ((a.val : Int) + 1) = wordE ((b.val : Int) + 1) → a = b := by decide +kernel
  have := key ⟨(k - 1).toNat, by omega⟩ ⟨(m - 1).toNat, by omega⟩ (by
    have e1 : (((k - 1).toNat : Nat) : Int) + 1 = k := by omega
    have e2 : (((m - 1).toNat : Nat) : Int) + 1 = m := by omega
    dsimp only
    rw [e1, e2]; exact e)
  have := congrArg Fin.val this
  dsimp only at this
  omega
theorem nameE_blank {n : List UInt8} (h : nameE n = true) : (32 : UInt8) ∉ n := by
  unfold nameE at h
  rw [Bool.or_eq_true, decide_eq_true_eq] at h
  rcases h with rfl | h
  · simp
  · exact name_blank h
theorem toksE_blank {x : Ev} (h : mayE x = true) : ∀ w ∈ toksE x, (32 : UInt8) ∉ w := by
  obtain ⟨hk, ht, ha, hb⟩ := (mayE_iff x).1 h
  intro w hw
  unfold toksE at hw
  rw [List.mem_cons, List.mem_cons, List.mem_append] at hw
  rcases hw with rfl | rfl | hw | hw
  · intro hd
    have := digits_ok _ _ hd
    simp at this
  · exact word_blank hk
  · split at hw
    · cases hw
    · rw [List.mem_singleton] at hw; rw [hw]; exact nameE_blank ha
  · split at hw
    · cases hw
    · rw [List.mem_singleton] at hw; rw [hw]; exact nameE_blank hb
theorem digits_inj {m n : Nat} (h : decDigits m = decDigits n) : m = n := by
  have := numF_digits m
  rw [h, numF_digits n] at this
  exact (Option.some.inj this).symm
theorem text_inj {x y : Ev} (hx : mayE x = true) (ha : x.a ≠ []) (hb : y.a ≠ []) (h : textE x = textE y) : x = y := by
  unfold textE at h
  rw [if_pos hx] at h
  by_cases hy : mayE y = true
  · rw [if_pos hy] at h
    have e := congrArg wordsW h
    rw [words_join _ (by unfold toksE; simp) (toksE_blank hx), words_join _ (by unfold toksE; simp) (toksE_blank hy)] at e
    unfold toksE at e
    rw [if_neg ha, if_neg hb] at e
    obtain ⟨hk, ht, _, _⟩ := (mayE_iff x).1 hx
    obtain ⟨hk', ht', _, _⟩ := (mayE_iff y).1 hy
    simp only [List.cons_append, List.nil_append, List.cons.injEq] at e
    obtain ⟨e1, e2, e3, e4⟩ := e
    have e1 := digits_inj e1
    have e2 := word_inj hk hk' e2
    obtain ⟨k, t, a, b⟩ := x
    obtain ⟨k', t', a', b'⟩ := y
    dsimp only at *
    have et : t = t' := by omega
    have eb : b = b' := by
      by_cases h1 : b = []
      · by_cases h2 : b' = []
        · rw [h1, h2]
        · rw [if_pos h1, if_neg h2] at e4; cases e4
      · by_cases h2 : b' = []
        · rw [if_neg h1, if_pos h2] at e4; cases e4
        · rw [if_neg h1, if_neg h2] at e4; injection e4
    rw [e2, et, e3, eb]
  · rw [if_neg hy] at h
    have := congrArg List.length h
    unfold toksE at this
    rw [joinW] at this
    simp at this
theorem live_event : bytesE ⟨10, 5, [114], []⟩ = [10, 1, 5, 1, 1, 114, 0] ∧ textE ⟨10, 5, [114], []⟩ = [53, 32, 112, 117, 114, 103, 101, 32, 114] ∧ endsE ⟨10, 5, [114], []⟩ = true := by
  refine ⟨by decide +kernel, by decide +kernel, by decide +kernel⟩
end
section
open Go.RowKit
def I64 (n : Int) : Prop := -9223372036854775808 ≤ n ∧ n ≤ 9223372036854775807
structure KeepP (P : Nat → Prop) (w w' : World) : Prop where
  os : w'.os = w.os
  tape : w'.tape = w.tape
  output : w'.output = w.output
  size : w.heap.size ≤ w'.heap.size
  block : ∀ b, P b → w'.heap[b]? = w.heap[b]?
section
variable {P Q : Nat → Prop} {a b c : World}
theorem KeepP.refl (P : Nat → Prop) (w : World) : KeepP P w w := ⟨rfl, rfl, rfl, Nat.le_refl _, fun _ _ => rfl⟩
theorem KeepP.trans (h : KeepP P a b) (k : KeepP P b c) : KeepP P a c := ⟨k.os.trans h.os, k.tape.trans h.tape, k.output.trans h.output, Nat.le_trans h.size k.size, fun i hi => (k.block i hi).trans (h.block i hi)⟩
theorem KeepP.mono (h : KeepP P a b) (hq : ∀ x, Q x → P x) : KeepP Q a b := ⟨h.os, h.tape, h.output, h.size, fun i hi => h.block i (hq i hi)⟩
theorem KeepP.of_below (h : Below a.heap.size a b) (hp : ∀ x, P x → x < a.heap.size) : KeepP P a b := ⟨h.os, h.tape, h.output, h.size, fun i hi => h.block i (hp i hi)⟩
theorem KeepP.alloc (w : World) (o : Obj) (hp : ∀ x, P x → x < w.heap.size) : KeepP P w (w.alloc o) := KeepP.of_below ((Below.refl _ _).alloc (Nat.le_refl _) o) hp
theorem KeepP.to_below {B : Nat} (h : KeepP P a b) (hp : ∀ x, x < B → P x) : Below B a b := ⟨h.os, h.tape, h.output, h.size, fun i hi => h.block i (hp i hi)⟩
theorem KB.keepP {g : Nat} {t : TypeId} {cs : Array Value} (h : KB a g t cs) (k : KeepP P a b) (hp : P g) : KB b g t cs := h.keep (k.block g hp)
end
section
variable {P Q : Nat → Prop} {a b c : World}
theorem KeepP.drewN (h : KeepP P a b) (n : Nat) : KeepP P a (b.drewN n) := ⟨h.os, h.tape, h.output, h.size, h.block⟩
theorem KeepP.set (h : KeepP P a b) (p : Addr) (hp : ¬ P p.block) (u : Value) : KeepP P a (b.setCell p u) :=
  ⟨h.os, h.tape, h.output, by simp [World.setCell]; exact h.size, fun i hi => (Below.heap_setCell b p u i fun e => hp (e ▸ hi)).trans (h.block i hi)⟩
theorem KeepP.new (h : KeepP P a b) (o : Obj) (hp : ∀ x, P x → x < a.heap.size) : KeepP P a (b.alloc o) :=
  ⟨h.os, h.tape, h.output, by have := h.size; simp; omega, fun i hi => (Below.heap_alloc b o i (by have := hp i hi; have := h.size; omega)).trans (h.block i hi)⟩
theorem KeepP.grown (h : KeepP P a b) {row : Option Nat} (hg : b.grownBy c row) (hr : ∀ g, row = some g → ¬ P g) (hp : ∀ x, P x → x < a.heap.size) : KeepP P a c :=
  ⟨hg.os.trans h.os, hg.tape.trans h.tape, hg.output.trans h.output, Nat.le_trans h.size hg.size, fun i hi => (hg.block i (by have := hp i hi; have := h.size; omega) (fun e => hr i e.symm hi)).trans (h.block i hi)⟩
theorem KeepP.below (h : KeepP P a b) {B : Nat} (hg : Below B b c) (hp : ∀ x, P x → x < B) : KeepP P a c :=
  ⟨hg.os.trans h.os, hg.tape.trans h.tape, hg.output.trans h.output, Nat.le_trans h.size hg.size, fun i hi => (hg.block i (hp i hi)).trans (h.block i hi)⟩
end
theorem own_keep {w w' : World} {B e size n : Nat} {v : Value} {xs : List Value} (h : w.ownsRow B e size v n xs) (hk : ∀ b, v.ownBlock = some b → w'.heap[b]? = w.heap[b]?) : w'.ownsRow B e size v n xs := by
  obtain ⟨h1, h2⟩ := h
  refine ⟨h1, ?_⟩
  rcases h2 with h2 | ⟨g, c, cur, rfl, hb, hg, r⟩
  · exact .inl h2
  · exact .inr ⟨g, c, cur, rfl, hb, (hk g rfl).trans hg, r⟩
def CS (w : World) (S : Nat → Prop) (v : Value) (cs : List Value) : Prop :=
  ∃ A c, v = .slice A cs.length c ∧ cs.length ≤ c ∧ c ≤ maxLen ∧
    (0 < cs.length → ∃ b o, A = some ⟨b, o, none⟩ ∧ S b ∧ b < w.heap.size ∧ ∀ j u, cs[j]? = some u → w.cell? ⟨b, o + j, none⟩ = some u)
section
variable {w w' : World} {S S' : Nat → Prop} {v : Value} {cs : List Value}
theorem CS.nil (w : World) (S : Nat → Prop) : CS w S (.slice none 0 0) [] := ⟨none, 0, rfl, by simp, by simp [maxLen], fun h => absurd h (by simp)⟩
theorem CS.keep (h : CS w S v cs) (hs : w.heap.size ≤ w'.heap.size) (hk : ∀ b, S b → b < w.heap.size → w'.heap[b]? = w.heap[b]?) : CS w' S v cs := by
  obtain ⟨A, c, e, hl, hc, hx⟩ := h
  refine ⟨A, c, e, hl, hc, fun h0 => ?_⟩
  obtain ⟨b, o, ea, sb, hb, hx⟩ := hx h0
  exact ⟨b, o, ea, sb, by omega, fun j u hu => (World.cell?_of_block (w := w) (hk b sb hb)).trans (hx j u hu)⟩
theorem CS.mono (h : CS w S v cs) (hs : ∀ b, S b → S' b) : CS w S' v cs := by
  obtain ⟨A, c, e, hl, hc, hx⟩ := h
  refine ⟨A, c, e, hl, hc, fun h0 => ?_⟩
  obtain ⟨b, o, ea, sb, r⟩ := hx h0
  exact ⟨b, o, ea, hs b sb, r⟩
theorem CS.lt (h : CS w S v cs) : CS w (fun b => S b ∧ b < w.heap.size) v cs := by
  obtain ⟨A, c, e, hl, hc, hx⟩ := h
  refine ⟨A, c, e, hl, hc, fun h0 => ?_⟩
  obtain ⟨b, o, ea, sb, hb, r⟩ := hx h0
  exact ⟨b, o, ea, ⟨sb, hb⟩, hb, r⟩
theorem CS.below' (h : CS w S v cs) (hg : Below w.heap.size w w') : CS w' S v cs := h.keep hg.size fun b _ hb => hg.block b hb
theorem CS.keepP {P : Nat → Prop} (h : CS w S v cs) (k : KeepP P w w') (hp : ∀ b, S b → b < w.heap.size → P b) : CS w' S v cs := h.keep k.size fun b sb hb => k.block b (hp b sb hb)
theorem CS.form (h : CS w S v cs) : ∃ A c, v = .slice A cs.length c ∧ cs.length ≤ c ∧ c ≤ maxLen := by
  obtain ⟨A, c, e, hl, hc, hx⟩ := h
  exact ⟨A, c, e, hl, hc⟩
theorem CS.at_ {A : Option Addr} {n c : Nat} (h : CS w S (.slice A n c) cs) (hp : 0 < cs.length) :
    ∃ b o, A = some ⟨b, o, none⟩ ∧ S b ∧ b < w.heap.size ∧ ∀ j u, cs[j]? = some u → w.cell? ⟨b, o + j, none⟩ = some u := by
  obtain ⟨A', c', e, hl, hc, hx⟩ := h
  injection e with e1 e2 e3
  subst e1
  exact hx hp
theorem CS.of_own {base e n : Nat} (h : w.ownsRow base e 1 v n cs) : CS w (fun b => base ≤ b) v cs := by
  obtain ⟨h1, h2⟩ := h
  have hn : n = cs.length := by simpa using h1.symm
  subst hn
  rcases h2 with ⟨rfl, h0⟩ | ⟨g, cap, cur, rfl, hb, hg, hnc, hcm, hcs, htk⟩
  · obtain rfl : cs = [] := List.eq_nil_of_length_eq_zero h0
    exact CS.nil w _
  · refine ⟨_, _, rfl, hnc, hcm, fun _ => ⟨g, 0, rfl, hb, (Array.getElem?_eq_some_iff.1 hg).1, fun j u hu => ?_⟩⟩
    rw [Nat.zero_add, cell_of_row w g j cur e (0, 0) hg]
    rw [← htk, List.getElem?_take] at hu
    split at hu
    · simpa using hu
    · cases hu
end
end
section
open Go.RowKit Go.ChangeShapes Go.WideShapes Go.Joins
theorem cells_byte : Tryd.prog.cellsOf 5 = 1 := by kernel_rfl
def byteOf (z : Int) : UInt8 := UInt8.ofNat z.toNat
theorem byteOf_nat {z : Int} (h : (Lit.int .u8 z).wf = true) : ((byteOf z).toNat : Int) = z := by
  have hx : 0 ≤ z ∧ z ≤ 255 := by simpa [Lit.wf, IntKind.min, IntKind.max, IntKind.signed, IntKind.bits] using h
  unfold byteOf
  have : (UInt8.ofNat z.toNat).toNat = z.toNat % 256 := by simp
  rw [this]
  omega
theorem BS_of_trod {H : Type} {enc : TypeId × Value → H} {W : World} {fuel : Nat} {v : Value} {x : DataW H × List MemPlace}
    (h : DataW.trod enc Tryd.prog W 0 (fun _ => true) true fuel 25 [v] = some x) : ∃ l, BS W (fun _ => True) v l := by
  rcases open_ints Tryd.underlying25 Tryd.underlying5 cells_byte h with ⟨hcs, _⟩ | ⟨a, len, cap, zs, hcs, _, hl, hm, hz, _, hcell, hwz⟩
  · simp at hcs
    subst hcs
    exact ⟨[], BS.nil _ _⟩
  · simp at hcs
    subst hcs
    simp only [if_true] at hz
    have hlen : ((zs.take len).map byteOf).length = len := by simp; omega
    refine ⟨(zs.take len).map byteOf, some a, cap, by rw [hlen], by omega, hm, (fun h => by cases h), fun h0 => ?_⟩
    rw [hlen] at h0
    obtain ⟨b, o, rfl, hc⟩ := ints_at hcell (by omega)
    refine ⟨b, o, rfl, trivial, World.block_lt_of_cell? _ _ (hc 0 (by omega)), fun j u hu => ?_⟩
    have hj : j < len := by
      have := (List.getElem?_eq_some_iff.1 hu).1
      omega
    rw [hc j (by omega)]
    have hjz : j < zs.length := by omega
    simp [hj, List.getElem?_eq_getElem hjz] at hu
    subst hu
    unfold bv
    rw [byteOf_nat (hwz _ (List.getElem_mem hjz))]
    simp [List.getD, List.getElem?_eq_getElem hjz]
theorem BS_of_arg {H : Type} {enc : TypeId × Value → H} {W : World} {base : Nat} {v : Value} {d : DataW H} {p : List MemPlace}
    (ok : Value.okWide Tryd.prog W .any base 25 v) (h : DataW.Trod enc Tryd.prog W 0 (fun _ => true) true 25 v d p) : ∃ l, BS W (fun _ => True) v l := by
  obtain ⟨a0, len, cap, rfl⟩ := okWide_slice Tryd.underlying25 ok
  obtain ⟨fuel, hf⟩ := h
  exact BS_of_trod (x := _) hf
theorem cells_bytes : Tryd.prog.cellsOf 25 = 1 := by kernel_rfl
theorem LS_of_trod {H : Type} {enc : TypeId × Value → H} {W : World} {fuel : Nat} {v : Value} {x : DataW H × List MemPlace}
    (h : DataW.trod enc Tryd.prog W 0 (fun _ => true) true fuel 56 [v] = some x) : ∃ ls, LS W (fun b => b < W.heap.size) v ls := by
  rcases Deep.open_slice1 Tryd.underlying56 cells_bytes h with ⟨hcs, _⟩ | ⟨a, len, cap, m, n, V, D, Pl, hcs, _, hl, hm, hmm, _, hi⟩
  · simp at hcs
    subst hcs
    exact ⟨[], none, 0, rfl, by simp, by simp [maxLen], fun h0 => absurd h0 (by simp)⟩
  · simp at hcs
    subst hcs
    simp only [if_true] at hmm
    obtain ⟨f, hf⟩ := Deep.choose_lt (α := List UInt8) (n := m) (p := fun i l => BS W (fun _ => True) (V i) l) (fun i him => BS_of_trod (hi i him).2)
    have hlen : ((List.range len).map f).length = len := by simp
    refine ⟨(List.range len).map f, some a, cap, by rw [hlen], by omega, hm, fun h0 => ?_⟩
    rw [hlen] at h0
    obtain ⟨b, o, spot⟩ := a
    have hspot : spot = none := by simpa [Addr.add] using World.cell?_spot (hi 0 (by omega)).1
    subst hspot
    have hc0 := (hi 0 (by omega)).1
    rw [add_plain] at hc0
    refine ⟨b, o, rfl, World.block_lt_of_cell? _ _ hc0, World.block_lt_of_cell? _ _ hc0, fun j l hj => ?_⟩
    have hjl : j < len := by
      have := (List.getElem?_eq_some_iff.1 hj).1
      omega
    have hc := (hi j (by omega)).1
    rw [add_plain] at hc
    refine ⟨V j, hc, ?_⟩
    simp [hjl] at hj
    subst hj
    exact (hf j (by omega)).lt.mono fun _ h => h.2
end
end Go.Proofs.YtpeopkjmmmodpaaDoor
