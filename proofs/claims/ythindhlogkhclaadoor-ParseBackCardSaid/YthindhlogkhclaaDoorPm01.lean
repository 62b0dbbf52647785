/-
  Kp: Own words for memory, over any program: nothing but memory has turned, and no block of which a property holds; whole numbers of 64 bits; slices of cells. No condition; nothing of the dump is used here.
  SpM: Plain mathematics of layer 15 (span): what a unit's days are, which number digits tell, what a span's text is and what a text tells, which tick comes behind another one. No program. No condition.
  NamM: Which names may be: plain (layer 12's P12.1). No condition; nothing of the dump is used here. (Taken out of InM.)
-/
import Derived.Test.YthindhlogkhclaaDoorMem
import Derived.Lib.ItoaNum
set_option linter.unusedVariables false
set_option maxRecDepth 100000
namespace Go.Proofs.YthindhlogkhclaaDoor
section
open Go.RowKit
def I64 (n : Int) : Prop := -9223372036854775808 ≤ n ∧ n ≤ 9223372036854775807
structure KeepP (P : Nat → Prop) (w w' : World) : Prop where
  os : w'.os = w.os
  tape : w'.tape = w.tape
  output : w'.output = w.output
  size : w.heap.size ≤ w'.heap.size
  block : ∀ b, P b → w'.heap[b]? = w.heap[b]?
section
variable {P Q : Nat → Prop} {a b c : World}
theorem KeepP.refl (P : Nat → Prop) (w : World) : KeepP P w w := ⟨rfl, rfl, rfl, Nat.le_refl _, fun _ _ => rfl⟩
theorem KeepP.trans (h : KeepP P a b) (k : KeepP P b c) : KeepP P a c := ⟨k.os.trans h.os, k.tape.trans h.tape, k.output.trans h.output, Nat.le_trans h.size k.size, fun i hi => (k.block i hi).trans (h.block i hi)⟩
theorem KeepP.mono (h : KeepP P a b) (hq : ∀ x, Q x → P x) : KeepP Q a b := ⟨h.os, h.tape, h.output, h.size, fun i hi => h.block i (hq i hi)⟩
theorem KeepP.of_below (h : Below a.heap.size a b) (hp : ∀ x, P x → x < a.heap.size) : KeepP P a b := ⟨h.os, h.tape, h.output, h.size, fun i hi => h.block i (hp i hi)⟩
theorem KeepP.alloc (w : World) (o : Obj) (hp : ∀ x, P x → x < w.heap.size) : KeepP P w (w.alloc o) := KeepP.of_below ((Below.refl _ _).alloc (Nat.le_refl _) o) hp
theorem KeepP.to_below {B : Nat} (h : KeepP P a b) (hp : ∀ x, x < B → P x) : Below B a b := ⟨h.os, h.tape, h.output, h.size, fun i hi => h.block i (hp i hi)⟩
theorem KB.keepP {g : Nat} {t : TypeId} {cs : Array Value} (h : KB a g t cs) (k : KeepP P a b) (hp : P g) : KB b g t cs := h.keep (k.block g hp)
end
section
variable {P Q : Nat → Prop} {a b c : World}
theorem KeepP.drewN (h : KeepP P a b) (n : Nat) : KeepP P a (b.drewN n) := ⟨h.os, h.tape, h.output, h.size, h.block⟩
theorem KeepP.set (h : KeepP P a b) (p : Addr) (hp : ¬ P p.block) (u : Value) : KeepP P a (b.setCell p u) :=
  ⟨h.os, h.tape, h.output, by simp [World.setCell]; exact h.size, fun i hi => (Below.heap_setCell b p u i fun e => hp (e ▸ hi)).trans (h.block i hi)⟩
theorem KeepP.new (h : KeepP P a b) (o : Obj) (hp : ∀ x, P x → x < a.heap.size) : KeepP P a (b.alloc o) :=
  ⟨h.os, h.tape, h.output, by have := h.size; simp; omega, fun i hi => (Below.heap_alloc b o i (by have := hp i hi; have := h.size; omega)).trans (h.block i hi)⟩
theorem KeepP.grown (h : KeepP P a b) {row : Option Nat} (hg : b.grownBy c row) (hr : ∀ g, row = some g → ¬ P g) (hp : ∀ x, P x → x < a.heap.size) : KeepP P a c :=
  ⟨hg.os.trans h.os, hg.tape.trans h.tape, hg.output.trans h.output, Nat.le_trans h.size hg.size, fun i hi => (hg.block i (by have := hp i hi; have := h.size; omega) (fun e => hr i e.symm hi)).trans (h.block i hi)⟩
theorem KeepP.below (h : KeepP P a b) {B : Nat} (hg : Below B b c) (hp : ∀ x, P x → x < B) : KeepP P a c :=
  ⟨hg.os.trans h.os, hg.tape.trans h.tape, hg.output.trans h.output, Nat.le_trans h.size hg.size, fun i hi => (hg.block i (hp i hi)).trans (h.block i hi)⟩
end
theorem own_keep {w w' : World} {B e size n : Nat} {v : Value} {xs : List Value} (h : w.ownsRow B e size v n xs) (hk : ∀ b, v.ownBlock = some b → w'.heap[b]? = w.heap[b]?) : w'.ownsRow B e size v n xs := by
  obtain ⟨h1, h2⟩ := h
  refine ⟨h1, ?_⟩
  rcases h2 with h2 | ⟨g, c, cur, rfl, hb, hg, r⟩
  · exact .inl h2
  · exact .inr ⟨g, c, cur, rfl, hb, (hk g rfl).trans hg, r⟩
def CS (w : World) (S : Nat → Prop) (v : Value) (cs : List Value) : Prop :=
  ∃ A c, v = .slice A cs.length c ∧ cs.length ≤ c ∧ c ≤ maxLen ∧
    (0 < cs.length → ∃ b o, A = some ⟨b, o, none⟩ ∧ S b ∧ b < w.heap.size ∧ ∀ j u, cs[j]? = some u → w.cell? ⟨b, o + j, none⟩ = some u)
section
variable {w w' : World} {S S' : Nat → Prop} {v : Value} {cs : List Value}
theorem CS.nil (w : World) (S : Nat → Prop) : CS w S (.slice none 0 0) [] := ⟨none, 0, rfl, by simp, by simp [maxLen], fun h => absurd h (by simp)⟩
theorem CS.keep (h : CS w S v cs) (hs : w.heap.size ≤ w'.heap.size) (hk : ∀ b, S b → b < w.heap.size → w'.heap[b]? = w.heap[b]?) : CS w' S v cs := by
  obtain ⟨A, c, e, hl, hc, hx⟩ := h
  refine ⟨A, c, e, hl, hc, fun h0 => ?_⟩
  obtain ⟨b, o, ea, sb, hb, hx⟩ := hx h0
  exact ⟨b, o, ea, sb, by omega, fun j u hu => (World.cell?_of_block (w := w) (hk b sb hb)).trans (hx j u hu)⟩
theorem CS.mono (h : CS w S v cs) (hs : ∀ b, S b → S' b) : CS w S' v cs := by
  obtain ⟨A, c, e, hl, hc, hx⟩ := h
  refine ⟨A, c, e, hl, hc, fun h0 => ?_⟩
  obtain ⟨b, o, ea, sb, r⟩ := hx h0
  exact ⟨b, o, ea, hs b sb, r⟩
theorem CS.lt (h : CS w S v cs) : CS w (fun b => S b ∧ b < w.heap.size) v cs := by
  obtain ⟨A, c, e, hl, hc, hx⟩ := h
  refine ⟨A, c, e, hl, hc, fun h0 => ?_⟩
  obtain ⟨b, o, ea, sb, hb, r⟩ := hx h0
  exact ⟨b, o, ea, ⟨sb, hb⟩, hb, r⟩
theorem CS.below' (h : CS w S v cs) (hg : Below w.heap.size w w') : CS w' S v cs := h.keep hg.size fun b _ hb => hg.block b hb
theorem CS.keepP {P : Nat → Prop} (h : CS w S v cs) (k : KeepP P w w') (hp : ∀ b, S b → b < w.heap.size → P b) : CS w' S v cs := h.keep k.size fun b sb hb => k.block b (hp b sb hb)
theorem CS.form (h : CS w S v cs) : ∃ A c, v = .slice A cs.length c ∧ cs.length ≤ c ∧ c ≤ maxLen := by
  obtain ⟨A, c, e, hl, hc, hx⟩ := h
  exact ⟨A, c, e, hl, hc⟩
theorem CS.at_ {A : Option Addr} {n c : Nat} (h : CS w S (.slice A n c) cs) (hp : 0 < cs.length) :
    ∃ b o, A = some ⟨b, o, none⟩ ∧ S b ∧ b < w.heap.size ∧ ∀ j u, cs[j]? = some u → w.cell? ⟨b, o + j, none⟩ = some u := by
  obtain ⟨A', c', e, hl, hc, hx⟩ := h
  injection e with e1 e2 e3
  subst e1
  exact hx hp
theorem CS.of_own {base e n : Nat} (h : w.ownsRow base e 1 v n cs) : CS w (fun b => base ≤ b) v cs := by
  obtain ⟨h1, h2⟩ := h
  have hn : n = cs.length := by simpa using h1.symm
  subst hn
  rcases h2 with ⟨rfl, h0⟩ | ⟨g, cap, cur, rfl, hb, hg, hnc, hcm, hcs, htk⟩
  · obtain rfl : cs = [] := List.eq_nil_of_length_eq_zero h0
    exact CS.nil w _
  · refine ⟨_, _, rfl, hnc, hcm, fun _ => ⟨g, 0, rfl, hb, (Array.getElem?_eq_some_iff.1 hg).1, fun j u hu => ?_⟩⟩
    rw [Nat.zero_add, cell_of_row w g j cur e (0, 0) hg]
    rw [← htk, List.getElem?_take] at hu
    split at hu
    · simpa using hu
    · cases hu
end
end
section
open Go.Lib
def unitD (c : Nat) : Nat := if c = 100 then 1 else if c = 119 then 7 else if c = 109 then 30 else if c = 121 then 365 else 0
def daysD (n : Int) (c : Nat) : Int × Int :=
  if n < 0 ∨ unitD c = 0 then (0, 1) else if (1048576 : Int) / (unitD c : Int) < n then (0, 16) else (n * (unitD c : Int), 0)
def numF : Nat → List UInt8 → Option Nat
  | n, [] => some n
  | n, b :: l => if 48 ≤ b.toNat ∧ b.toNat ≤ 57 then numF (10 * n + (b.toNat - 48)) l else none
def numD (l : List UInt8) : Option Nat := if l.length < 1 ∨ 7 < l.length ∨ (l.head? = some 48 ∧ 1 < l.length) then none else numF 0 l
def parseD (l : List UInt8) : Int × Int :=
  match l.getLast? with
  | none => (0, 2)
  | some c => if unitD c.toNat = 0 then (0, 2) else match numD l.dropLast with
    | none => (0, 2)
    | some n => daysD (n : Int) c.toNat
def greatD (d : Nat) : UInt8 := if d = 0 then 100 else if d % 365 = 0 then 121 else if d % 30 = 0 then 109 else if d % 7 = 0 then 119 else 100
def textD (d : Int) : List UInt8 := if d < 0 ∨ 1048576 < d then [] else decDigits (d.toNat / unitD (greatD d.toNat).toNat) ++ [greatD d.toNat]
def afterD (t d : Int) : Int × Bool := if t < 0 ∨ 1099511627776 < t ∨ d < 0 ∨ 1048576 < d ∨ 1099511627776 < t + d then (0, false) else (t + d, true)
def addD (t n : Int) : Int × Int := if t < 0 ∨ 1099511627776 < t ∨ n < 1 then (0, 1) else if 1099511627776 - t < n then (0, 16) else (t + n, 0)
theorem unit_cases (c : Nat) : unitD c = 0 ∨ (c = 100 ∧ unitD c = 1) ∨ (c = 119 ∧ unitD c = 7) ∨ (c = 109 ∧ unitD c = 30) ∨ (c = 121 ∧ unitD c = 365) := by
  unfold unitD
  split
  · simp [*]
  · split
    · simp [*]
    · split
      · simp [*]
      · split
        · simp [*]
        · simp
theorem great_unit (d : Nat) : (greatD d = 100 ∧ unitD (greatD d).toNat = 1) ∨ (greatD d = 119 ∧ unitD (greatD d).toNat = 7) ∨ (greatD d = 109 ∧ unitD (greatD d).toNat = 30) ∨ (greatD d = 121 ∧ unitD (greatD d).toNat = 365) := by
  unfold greatD
  repeat' split
  all_goals simp [unitD]
theorem great_pos (d : Nat) : 1 ≤ unitD (greatD d).toNat ∧ unitD (greatD d).toNat ≤ 365 := by
  rcases great_unit d with h | h | h | h <;> (rw [h.2]; omega)
theorem great_divides (d : Nat) : d % unitD (greatD d).toNat = 0 := by
  unfold greatD
  repeat' split
  all_goals (simp [unitD]; try omega)
theorem great_most (n : Nat) (c : Nat) (hn : 0 < n * unitD c) : unitD c ≤ unitD (greatD (n * unitD c)).toNat := by
  rcases unit_cases c with h | ⟨_, h⟩ | ⟨_, h⟩ | ⟨_, h⟩ | ⟨_, h⟩
  · rw [h]; omega
  · rw [h]; exact (great_pos _).1
  all_goals
    rw [h] at hn ⊢
    unfold greatD
    rw [if_neg (by omega)]
    repeat' split
    all_goals first | omega | (simp [unitD]; done) | (exfalso; omega)
theorem numF_append : ∀ (l m : List UInt8) (n : Nat), numF n (l ++ m) = (numF n l).bind fun k => numF k m
  | [], m, n => rfl
  | b :: l, m, n => by
    simp only [List.cons_append, numF]
    by_cases h : 48 ≤ b.toNat ∧ b.toNat ≤ 57
    · rw [if_pos h, if_pos h]; exact numF_append l m _
    · rw [if_neg h, if_neg h]; rfl
theorem digit_nat (k : Nat) (h : k < 10) : (UInt8.ofNat (48 + k)).toNat = 48 + k := by
  rw [UInt8.toNat_ofNat']; omega
theorem numF_digits (k : Nat) : numF 0 (decDigits k) = some k := by
  induction k using Nat.strongRecOn with
  | _ k ih =>
    by_cases h : k < 10
    · rw [decDigits_one h]
      simp only [numF]
      rw [digit_nat k h, if_pos (by omega)]
      congr 1
      omega
    · rw [decDigits, dif_neg h, numF_append, ih (k / 10) (by omega)]
      simp only [Option.bind_some, numF]
      rw [digit_nat (k % 10) (by omega), if_pos (by omega)]
      congr 1
      omega
theorem digits_pos (k : Nat) : 1 ≤ (decDigits k).length := by rw [decDigits_length]; exact nDigits_pos k
theorem digits_head (k : Nat) (h : 1 ≤ k) : (decDigits k).head? ≠ some 48 := by
  induction k using Nat.strongRecOn with
  | _ k ih =>
    by_cases h9 : k < 10
    · rw [decDigits_one h9]
      intro e
      simp only [List.head?_cons, Option.some.injEq] at e
      have := congrArg UInt8.toNat e
      rw [digit_nat k h9] at this
      simp at this
      omega
    · rw [decDigits, dif_neg h9]
      have := ih (k / 10) (by omega) (by omega)
      have hp := digits_pos (k / 10)
      cases hd : decDigits (k / 10) with
      | nil => rw [hd] at hp; simp at hp
      | cons a t => rw [hd] at this; simpa using this
theorem numF_bounds : ∀ (l : List UInt8) (n k : Nat), numF n l = some k → n * 10 ^ l.length ≤ k ∧ k < (n + 1) * 10 ^ l.length
  | [], n, k, h => by
    simp only [numF, Option.some.injEq] at h
    subst h
    simp
  | b :: l, n, k, h => by
    simp only [numF] at h
    by_cases hb : 48 ≤ b.toNat ∧ b.toNat ≤ 57
    · rw [if_pos hb] at h
      obtain ⟨h1, h2⟩ := numF_bounds l _ _ h
      rw [List.length_cons, Nat.pow_succ]
      generalize 10 ^ l.length = p at h1 h2 ⊢
      constructor
      · calc n * (p * 10) = 10 * n * p := by rw [Nat.mul_comm p 10, ← Nat.mul_assoc, Nat.mul_comm n 10]
          _ ≤ (10 * n + (b.toNat - 48)) * p := Nat.mul_le_mul_right _ (by omega)
          _ ≤ k := h1
      · calc k < (10 * n + (b.toNat - 48) + 1) * p := h2
          _ ≤ ((n + 1) * 10) * p := Nat.mul_le_mul_right _ (by omega)
          _ = (n + 1) * (p * 10) := by rw [Nat.mul_assoc, Nat.mul_comm 10 p]
    · rw [if_neg hb] at h; cases h
theorem numD_some {l : List UInt8} {n : Nat} (h : numD l = some n) : 1 ≤ l.length ∧ l.length ≤ 7 ∧ (l.head? = some 48 → l.length = 1) ∧ numF 0 l = some n := by
  unfold numD at h
  by_cases hc : l.length < 1 ∨ 7 < l.length ∨ (l.head? = some 48 ∧ 1 < l.length)
  · rw [if_pos hc] at h; cases h
  · rw [if_neg hc] at h
    refine ⟨by omega, by omega, fun hh => ?_, h⟩
    by_cases h1 : 1 < l.length
    · exact absurd (.inr (.inr ⟨hh, h1⟩)) hc
    · omega
theorem numD_length {l : List UInt8} {n : Nat} (h : numD l = some n) : l.length = nDigits n := by
  obtain ⟨h1, h7, hh, hn⟩ := numD_some h
  cases l with
  | nil => simp at h1
  | cons b l =>
    simp only [numF] at hn
    by_cases hb : 48 ≤ b.toNat ∧ b.toNat ≤ 57
    · rw [if_pos hb] at hn
      obtain ⟨l1, l2⟩ := numF_bounds l _ _ hn
      by_cases h0 : b.toNat = 48
      · have hb48 : b = 48 := UInt8.toNat.inj (by rw [h0]; rfl)
        have := hh (by rw [hb48]; rfl)
        have hl : l = [] := List.length_eq_zero_iff.1 (by simpa using this)
        subst hl
        simp only [numF, Option.some.injEq] at hn
        rw [nDigits_small (by omega)]
        rfl
      · refine (nDigits_unique l.length n ?_ ?_).symm
        · calc 10 ^ l.length = 1 * 10 ^ l.length := (Nat.one_mul _).symm
            _ ≤ (10 * 0 + (b.toNat - 48)) * 10 ^ l.length := Nat.mul_le_mul_right _ (by omega)
            _ ≤ n := l1
        · calc n < (10 * 0 + (b.toNat - 48) + 1) * 10 ^ l.length := l2
            _ ≤ 10 * 10 ^ l.length := Nat.mul_le_mul_right _ (by omega)
            _ = 10 ^ (l.length + 1) := by rw [Nat.pow_succ, Nat.mul_comm]
    · rw [if_neg hb] at hn; cases hn
theorem nDigits_mono : ∀ (a b : Nat), a ≤ b → nDigits a ≤ nDigits b := by
  intro a
  induction a using Nat.strongRecOn with
  | _ a ih =>
    intro b hab
    by_cases ha : a < 10
    · rw [nDigits_small ha]; exact nDigits_pos b
    · rw [nDigits_big ha, nDigits_big (u := b) (by omega)]
      have := ih (a / 10) (by omega) (b / 10) (Nat.div_le_div_right hab)
      omega
theorem nDigits_seven (k : Nat) (h : k ≤ 1048576) : nDigits k ≤ 7 := by
  have := nDigits_mono k 1048576 h
  have e : nDigits 1048576 = 7 := nDigits_unique 6 _ (by decide) (by decide)
  omega
theorem numD_digits (k : Nat) (h : k ≤ 1048576) : numD (decDigits k) = some k := by
  unfold numD
  have h1 := digits_pos k
  have h7 := nDigits_seven k h
  rw [← decDigits_length] at h7
  rw [if_neg, numF_digits]
  rintro (a | a | ⟨a, b⟩)
  · omega
  · omega
  · by_cases h0 : 1 ≤ k
    · exact digits_head k h0 a
    · have hk : k = 0 := by omega
      subst hk
      rw [decDigits_one (by omega)] at b
      simp at b
theorem text_none (d : Int) : textD d = [] ↔ (d < 0 ∨ 1048576 < d) := by
  unfold textD
  by_cases h : d < 0 ∨ 1048576 < d
  · rw [if_pos h]; simp [h]
  · rw [if_neg h]; simp [h]
theorem parse_text (d : Int) (h0 : 0 ≤ d) (h1 : d ≤ 1048576) : parseD (textD d) = (d, 0) := by
  obtain ⟨k, rfl⟩ : ∃ k : Nat, d = (k : Int) := ⟨d.toNat, by omega⟩
  unfold textD parseD
  rw [if_neg (by omega)]
  simp only [Int.toNat_natCast]
  rw [List.getLast?_concat, List.dropLast_concat]
  have hp := great_pos k
  have hd := great_divides k
  generalize greatD k = c at hp hd ⊢
  simp only
  rw [if_neg (by omega), numD_digits _ (Nat.le_trans (Nat.div_le_self _ _) (by omega))]
  simp only
  unfold daysD
  generalize unitD c.toNat = u at hp hd ⊢
  have hq : k / u ≤ 1048576 / u := Nat.div_le_div_right (by omega)
  have hm : k / u * u = k := by
    have := Nat.div_add_mod k u
    rw [hd, Nat.mul_comm] at this
    omega
  have hneg : ¬ (((k / u : Nat) : Int) < 0 ∨ u = 0) := by
    generalize k / u = q
    omega
  rw [if_neg hneg]
  have e1 : ¬ ((1048576 : Int) / (u : Int) < ((k / u : Nat) : Int)) := by
    have : (1048576 : Int) / (u : Int) = ((1048576 / u : Nat) : Int) := rfl
    rw [this]
    omega
  rw [if_neg e1]
  have e2 : ((k / u : Nat) : Int) * (u : Int) = (k : Int) := by
    rw [← Int.natCast_mul, hm]
  rw [e2]
theorem text_parse (l : List UInt8) (h : (parseD l).2 = 0) : 0 ≤ (parseD l).1 ∧ (parseD l).1 ≤ 1048576 ∧ (textD (parseD l).1).length ≤ l.length := by
  unfold parseD at h ⊢
  cases hl : l.getLast? with
  | none => rw [hl] at h; simp at h
  | some c =>
    rw [hl] at h
    simp only at h ⊢
    by_cases hu : unitD c.toNat = 0
    · rw [if_pos hu] at h; simp at h
    · rw [if_neg hu] at h ⊢
      cases hn : numD l.dropLast with
      | none => rw [hn] at h; simp at h
      | some n =>
        rw [hn] at h
        simp only at h ⊢
        unfold daysD at h ⊢
        have hneg : ¬ ((n : Int) < 0 ∨ unitD c.toNat = 0) := by omega
        rw [if_neg hneg] at h ⊢
        by_cases hb : (1048576 : Int) / (unitD c.toNat : Int) < (n : Int)
        · rw [if_pos hb] at h; simp at h
        · rw [if_neg hb]
          have hlen : l.dropLast.length = nDigits n := numD_length hn
          have hne : 0 < l.length := by cases l with
            | nil => simp at hl
            | cons a t => simp
          rw [List.length_dropLast] at hlen
          have hnp := nDigits_pos n
          have hq : n ≤ 1048576 / unitD c.toNat := by
            have : (1048576 : Int) / (unitD c.toNat : Int) = ((1048576 / unitD c.toNat : Nat) : Int) := rfl
            rw [this] at hb
            omega
          have hm : n * unitD c.toNat ≤ 1048576 := Nat.le_trans (Nat.mul_le_mul_right _ hq) (Nat.div_mul_le_self _ _)
          have e2 : (n : Int) * (unitD c.toNat : Int) = ((n * unitD c.toNat : Nat) : Int) := by rw [Int.natCast_mul]
          rw [e2]
          refine ⟨by omega, by omega, ?_⟩
          unfold textD
          rw [if_neg (by omega)]
          simp only [Int.toNat_natCast, List.length_append, List.length_singleton, decDigits_length]
          have hle : n * unitD c.toNat / unitD (greatD (n * unitD c.toNat)).toNat ≤ n := by
            by_cases h0 : n * unitD c.toNat = 0
            · rw [h0]; simp
            · have hg := great_most n c.toNat (by omega)
              refine Nat.div_le_of_le_mul ?_
              rw [Nat.mul_comm (unitD (greatD (n * unitD c.toNat)).toNat) n]
              exact Nat.mul_le_mul_left n hg
          have := nDigits_mono _ _ hle
          omega
end
section
def okc (c : Nat) : Bool := (decide (97 ≤ c) && decide (c ≤ 122)) || (decide (48 ≤ c) && decide (c ≤ 57)) || decide (c = 46) || decide (c = 45) || decide (c = 95)
def nameS (l : List UInt8) : Bool := decide (1 ≤ l.length) && decide (l.length ≤ 16) && l.all fun b => okc b.toNat
theorem name_iff (l : List UInt8) : nameS l = true ↔ 1 ≤ l.length ∧ l.length ≤ 16 ∧ ∀ b ∈ l, okc b.toNat = true := by
  unfold nameS
  simp only [Bool.and_eq_true, decide_eq_true_eq, and_assoc, List.all_eq_true]
theorem name_ex : nameS [97, 45, 49, 46, 120] = true := by decide +kernel
theorem name_ex2 : nameS [65] = false := by decide +kernel
end
end Go.Proofs.YthindhlogkhclaaDoor
