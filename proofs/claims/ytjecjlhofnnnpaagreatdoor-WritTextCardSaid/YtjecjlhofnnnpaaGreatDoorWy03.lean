/-
  TlvM: The plain mathematics of tlv: what bytes a number has, what number bytes have, what a reader answers. No condition; nothing of the dump is used here.
  NamM: Which names may be: plain (layer 12's P12.1). No condition; nothing of the dump is used here. (Taken out of InM.)
  ScM: Plain mathematics of layer 20 (scope): scopes as trees at most f deep; which may be, which records they match, their bytes, how they are read; there and back (P20.4), and not of and, or (P20.5). No program. No condition.
  SpM: Plain mathematics of layer 15 (span): what a unit's days are, which number digits tell, what a span's text is and what a text tells, which tick comes behind another one. No program. No condition.
-/
import Derived.Test.YtjecjlhofnnnpaaGreatDoorWy01
import Derived.Lib.ItoaNum
set_option linter.unusedVariables false
set_option maxRecDepth 100000
namespace Go.Proofs.YtjecjlhofnnnpaaGreatDoor
section
def val : List UInt8 → Nat
  | [] => 0
  | b :: l => b.toNat * 256 ^ l.length + val l
theorem val_lt (l : List UInt8) : val l < 256 ^ l.length := by
  induction l with
  | nil => simp [val]
  | cons b l ih =>
    have hb := b.toNat_lt
    have h1 : b.toNat * 256 ^ l.length ≤ 255 * 256 ^ l.length := Nat.mul_le_mul_right _ (by omega)
    simp only [val, List.length_cons, Nat.pow_succ]
    omega
theorem val_snoc (l : List UInt8) (b : UInt8) : val (l ++ [b]) = val l * 256 + b.toNat := by
  induction l with
  | nil => simp [val]
  | cons c l ih =>
    simp only [List.cons_append, val, ih, List.length_append, List.length_cons, List.length_nil, Nat.zero_add, Nat.pow_succ, Nat.add_mul, Nat.mul_assoc]
    omega
theorem val_take_succ (l : List UInt8) (k : Nat) (h : k < l.length) : val (l.take (k + 1)) = val (l.take k) * 256 + (l[k]).toNat := by
  rw [List.take_succ_eq_append_getElem h, val_snoc]
theorem val_lt_eight (l : List UInt8) (h : l.length ≤ 8) : val l < 18446744073709551616 :=
  Nat.lt_of_lt_of_le (val_lt l) (Nat.le_trans (Nat.pow_le_pow_right (by omega) h) (by decide))
theorem val_lt_seven (l : List UInt8) (h : l.length ≤ 7) : val l < 72057594037927936 :=
  Nat.lt_of_lt_of_le (val_lt l) (Nat.le_trans (Nat.pow_le_pow_right (by omega) h) (by decide))
def dig : Nat → Nat → List UInt8
  | 0, _ => []
  | f + 1, n => if n = 0 then [] else dig f (n / 256) ++ [UInt8.ofNat (n % 256)]
def numb (n : Nat) : List UInt8 := UInt8.ofNat (dig 8 n).length :: dig 8 n
def texb (l : List UInt8) : List UInt8 := numb l.length ++ l
theorem dig_length_le (f n : Nat) : (dig f n).length ≤ f := by
  induction f generalizing n with
  | zero => simp [dig]
  | succ f ih =>
    simp only [dig]
    split
    · simp
    · have := ih (n / 256)
      simp
      omega
theorem dig_val (f n : Nat) (h : n < 256 ^ f) : val (dig f n) = n := by
  induction f generalizing n with
  | zero => simp at h; subst h; rfl
  | succ f ih =>
    simp only [dig]
    split
    · rename_i h0; subst h0; rfl
    · rw [val_snoc, ih (n / 256) (by rw [Nat.pow_succ] at h; omega)]
      have : (UInt8.ofNat (n % 256)).toNat = n % 256 := by simp
      omega
theorem dig_head (f n : Nat) (h : n < 256 ^ f) : (dig f n).head? ≠ some 0 := by
  induction f generalizing n with
  | zero => simp [dig]
  | succ f ih =>
    simp only [dig]
    split
    · simp
    · rename_i h0
      have hd := ih (n / 256) (by rw [Nat.pow_succ] at h; omega)
      by_cases hq : n / 256 = 0
      · have e : dig f (n / 256) = [] := by rw [hq]; cases f <;> simp [dig]
        rw [e]
        simp only [List.nil_append, List.head?_cons, ne_eq, Option.some.injEq]
        intro hx
        have := congrArg UInt8.toNat hx
        simp at this
        omega
      · cases hq' : dig f (n / 256) with
        | nil =>
          have hv := dig_val f (n / 256) (by rw [Nat.pow_succ] at h; omega)
          rw [hq'] at hv
          simp [val] at hv
          omega
        | cons x l =>
          rw [hq'] at hd
          simpa using hd
theorem dig_of_val (f : Nat) (l : List UInt8) (hl : l.length ≤ f) (h0 : l.head? ≠ some 0) : dig f (val l) = l := by
  induction f generalizing l with
  | zero =>
    have : l = [] := List.eq_nil_of_length_eq_zero (by omega)
    subst this; rfl
  | succ f ih =>
    rcases List.eq_nil_or_concat l with rfl | ⟨m, b, rfl⟩
    · simp [val, dig]
    · rw [List.concat_eq_append] at *
      have hb := b.toNat_lt
      rw [val_snoc]
      have hne : val m * 256 + b.toNat ≠ 0 := by
        intro hz
        cases m with
        | nil =>
          simp [val] at hz
          apply h0
          simp
          exact UInt8.toNat_inj.1 (by simpa using hz)
        | cons c m =>
          have hc : c.toNat = 0 := by
            simp only [val] at hz
            have hp : 0 < 256 ^ m.length := Nat.pow_pos (by omega)
            rcases Nat.eq_zero_or_pos c.toNat with h | h
            · exact h
            · have := Nat.mul_pos h hp; omega
          apply h0
          simp
          exact UInt8.toNat_inj.1 (by simpa using hc)
      simp only [dig, if_neg hne]
      rw [show (val m * 256 + b.toNat) / 256 = val m by omega, show (val m * 256 + b.toNat) % 256 = b.toNat by omega, ih m (by simp at hl; omega) (by
        cases m with
        | nil => simp
        | cons c m => simpa using h0)]
      simp
def numOf : Option (List UInt8) → Option (List UInt8) × Nat
  | some (h :: t) => if 8 < h.toNat ∨ t.length < h.toNat ∨ (t.take h.toNat).head? = some 0 then (none, 0) else (some (t.drop h.toNat), val (t.take h.toNat))
  | _ => (none, 0)
theorem numOf_lt (st : Option (List UInt8)) : (numOf st).2 < 18446744073709551616 := by
  unfold numOf
  split
  · split
    · simp
    · exact val_lt_eight _ (by simp; omega)
  · simp
theorem numOf_numb (n : Nat) (l : List UInt8) (h : n < 18446744073709551616) : numOf (some (numb n ++ l)) = (some l, n) := by
  have h1 := dig_length_le 8 n
  have h2 : (UInt8.ofNat (dig 8 n).length).toNat = (dig 8 n).length := by simp; omega
  have h3 : (dig 8 n ++ l).take (dig 8 n).length = dig 8 n := List.take_left
  have h4 : (dig 8 n ++ l).drop (dig 8 n).length = l := List.drop_left
  have h5 := dig_head 8 n (by simpa using h)
  simp only [numb, List.cons_append, numOf, h2, h3, h4]
  rw [if_neg (by simp; exact ⟨by omega, h5⟩), dig_val 8 n (by simpa using h)]
theorem numb_numOf (l l' : List UInt8) (n : Nat) (h : numOf (some l) = (some l', n)) : numb n ++ l' = l := by
  cases l with
  | nil => simp [numOf] at h
  | cons a t =>
    simp only [numOf] at h
    split at h
    · simp at h
    · rename_i hc
      simp only [Prod.mk.injEq, Option.some.injEq] at h
      obtain ⟨rfl, rfl⟩ := h
      have e := dig_of_val 8 (t.take a.toNat) (by simp; omega) (fun e => hc (.inr (.inr e)))
      have e2 : (t.take a.toNat).length = a.toNat := by simp; omega
      simp only [numb, e, e2, List.cons_append, List.take_append_drop]
      congr 1
      simp
def passed (n : Int) (st : Option (List UInt8)) : Option (List UInt8) × List UInt8 :=
  if n < 0 ∨ (st.getD []).length < n then (none, []) else (st.map (·.drop n.toNat), (st.getD []).take n.toNat)
def cntOf (most : Int) (st : Option (List UInt8)) : Option (List UInt8) × Nat :=
  if most < 0 ∨ most < (numOf st).2 then (none, 0) else numOf st
def txtOf (most : Int) (st : Option (List UInt8)) : Option (List UInt8) × List UInt8 := passed (cntOf most st).2 (cntOf most st).1
def u64 (i : Int) : Nat := (i % 18446744073709551616).toNat
end
section
def okc (c : Nat) : Bool := (decide (97 ≤ c) && decide (c ≤ 122)) || (decide (48 ≤ c) && decide (c ≤ 57)) || decide (c = 46) || decide (c = 45) || decide (c = 95)
def nameS (l : List UInt8) : Bool := decide (1 ≤ l.length) && decide (l.length ≤ 16) && l.all fun b => okc b.toNat
theorem name_iff (l : List UInt8) : nameS l = true ↔ 1 ≤ l.length ∧ l.length ≤ 16 ∧ ∀ b ∈ l, okc b.toNat = true := by
  unfold nameS
  simp only [Bool.and_eq_true, decide_eq_true_eq, and_assoc, List.all_eq_true]
theorem name_ex : nameS [97, 45, 49, 46, 120] = true := by decide +kernel
theorem name_ex2 : nameS [65] = false := by decide +kernel
end
section
structure Ns (α : Type) where
  op : Int
  name : List UInt8
  from_ : Int
  to_ : Int
  kids : List α
def Sc : Nat → Type
  | 0 => Empty
  | f + 1 => Ns (Sc f)
def liftS : (f : Nat) → Sc f → Sc (f + 1)
  | 0, x => nomatch x
  | f + 1, (x : Ns (Sc f)) => (⟨x.op, x.name, x.from_, x.to_, x.kids.map (liftS f)⟩ : Ns (Sc (f + 1)))
def sameSL {α β : Type} (g : α → β → Bool) : List α → List β → Bool
  | [], [] => true
  | a :: l, b :: m => g a b && sameSL g l m
  | _, _ => false
def sameS : (f g : Nat) → Sc f → Sc g → Bool
  | 0, _, x, _ => nomatch x
  | _ + 1, 0, _, y => nomatch y
  | f + 1, g + 1, (a : Ns (Sc f)), (b : Ns (Sc g)) => decide (a.op = b.op) && decide (a.name = b.name) && decide (a.from_ = b.from_) && decide (a.to_ = b.to_) && sameSL (sameS f g) a.kids b.kids
theorem sameSL_iff {α : Type} {g : α → α → Bool} (h : ∀ a b, g a b = true ↔ a = b) : ∀ (l m : List α), sameSL g l m = true ↔ l = m
  | [], [] => by simp [sameSL]
  | [], b :: m => by simp [sameSL]
  | a :: l, [] => by simp [sameSL]
  | a :: l, b :: m => by rw [sameSL, Bool.and_eq_true, h, sameSL_iff h l m, List.cons.injEq]
theorem sameS_iff : ∀ (f : Nat) (a b : Sc f), sameS f f a b = true ↔ a = b
  | 0, a, _ => nomatch a
  | f + 1, ⟨k, n, d, e, ks⟩, ⟨k', n', d', e', ks'⟩ => by
    show (decide (k = k') && decide (n = n') && decide (d = d') && decide (e = e') && sameSL (sameS f f) ks ks') = true ↔ _
    rw [Bool.and_eq_true, Bool.and_eq_true, Bool.and_eq_true, Bool.and_eq_true, sameSL_iff (sameS_iff f), decide_eq_true_iff, decide_eq_true_iff, decide_eq_true_iff, decide_eq_true_iff]
    constructor
    · rintro ⟨⟨⟨⟨rfl, rfl⟩, rfl⟩, rfl⟩, rfl⟩; rfl
    · intro h; injection h with h1 h2 h3 h4 h5; exact ⟨⟨⟨⟨h1, h2⟩, h3⟩, h4⟩, h5⟩
theorem sameSL_sym {α β : Type} {g : α → β → Bool} {g' : β → α → Bool} (h : ∀ a b, g a b = true → g' b a = true) : ∀ (l : List α) (m : List β), sameSL g l m = true → sameSL g' m l = true
  | [], [], _ => rfl
  | [], b :: m, e => by simp [sameSL] at e
  | a :: l, [], e => by simp [sameSL] at e
  | a :: l, b :: m, e => by
    rw [sameSL, Bool.and_eq_true] at e ⊢
    exact ⟨h _ _ e.1, sameSL_sym h l m e.2⟩
theorem sameS_parts {f g : Nat} {a : Ns (Sc f)} {b : Ns (Sc g)} : sameS (f + 1) (g + 1) a b = true ↔ a.op = b.op ∧ a.name = b.name ∧ a.from_ = b.from_ ∧ a.to_ = b.to_ ∧ sameSL (sameS f g) a.kids b.kids = true := by
  show (decide (a.op = b.op) && decide (a.name = b.name) && decide (a.from_ = b.from_) && decide (a.to_ = b.to_) && sameSL (sameS f g) a.kids b.kids) = true ↔ _
  simp only [Bool.and_eq_true, decide_eq_true_eq, and_assoc]
theorem sameS_sym : ∀ (f g : Nat) (a : Sc f) (b : Sc g), sameS f g a b = true → sameS g f b a = true
  | 0, _, a, _, _ => nomatch a
  | _ + 1, 0, _, b, _ => nomatch b
  | f + 1, g + 1, (a : Ns (Sc f)), (b : Ns (Sc g)), e => by
    obtain ⟨h1, h2, h3, h4, h5⟩ := sameS_parts.1 e
    exact sameS_parts.2 ⟨h1.symm, h2.symm, h3.symm, h4.symm, sameSL_sym (sameS_sym f g) _ _ h5⟩
theorem sameSL_trans {α β γ : Type} {g : α → β → Bool} {g' : β → γ → Bool} {g2 : α → γ → Bool} (h : ∀ a b c, g a b = true → g' b c = true → g2 a c = true) :
    ∀ (l : List α) (m : List β) (n : List γ), sameSL g l m = true → sameSL g' m n = true → sameSL g2 l n = true
  | [], [], [], _, _ => rfl
  | [], [], _ :: _, _, e => by simp [sameSL] at e
  | [], b :: m, _, e, _ => by simp [sameSL] at e
  | a :: l, [], _, e, _ => by simp [sameSL] at e
  | a :: l, b :: m, [], _, e => by simp [sameSL] at e
  | a :: l, b :: m, c :: n, e, e' => by
    rw [sameSL, Bool.and_eq_true] at e e' ⊢
    exact ⟨h _ _ _ e.1 e'.1, sameSL_trans h l m n e.2 e'.2⟩
theorem sameS_trans : ∀ (f g k : Nat) (a : Sc f) (b : Sc g) (c : Sc k), sameS f g a b = true → sameS g k b c = true → sameS f k a c = true
  | 0, _, _, a, _, _, _, _ => nomatch a
  | _ + 1, 0, _, _, b, _, _, _ => nomatch b
  | _ + 1, _ + 1, 0, _, _, c, _, _ => nomatch c
  | f + 1, g + 1, k + 1, (a : Ns (Sc f)), (b : Ns (Sc g)), (c : Ns (Sc k)), e, e' => by
    obtain ⟨h1, h2, h3, h4, h5⟩ := sameS_parts.1 e
    obtain ⟨g1, g2, g3, g4, g5⟩ := sameS_parts.1 e'
    exact sameS_parts.2 ⟨h1.trans g1, h2.trans g2, h3.trans g3, h4.trans g4, sameSL_trans (sameS_trans f g k) _ _ _ h5 g5⟩
theorem sameSL_map {α β : Type} {g : β → α → Bool} (k : α → β) (h : ∀ a, g (k a) a = true) : ∀ l : List α, sameSL g (l.map k) l = true
  | [] => rfl
  | a :: l => by rw [List.map_cons, sameSL, h, sameSL_map k h l]; rfl
theorem sameS_lift : ∀ (f : Nat) (x : Sc f), sameS (f + 1) f (liftS f x) x = true
  | 0, x => nomatch x
  | f + 1, (x : Ns (Sc f)) => sameS_parts.2 ⟨rfl, rfl, rfl, rfl, sameSL_map (liftS f) (sameS_lift f) _⟩
theorem sameSL_len {α β : Type} {g : α → β → Bool} : ∀ (l : List α) (m : List β), sameSL g l m = true → l.length = m.length
  | [], [], _ => rfl
  | [], b :: m, e => by simp [sameSL] at e
  | a :: l, [], e => by simp [sameSL] at e
  | a :: l, b :: m, e => by
    rw [sameSL, Bool.and_eq_true] at e
    rw [List.length_cons, List.length_cons, sameSL_len l m e.2]
def namedS (k : Int) : Bool := decide (k = 2 ∨ k = 3 ∨ k = 4)
def manyS (k : Int) : Bool := decide (k = 6 ∨ k = 7)
def kidsOk (k : Int) (n : Nat) : Bool := if manyS k = true then decide (2 ≤ n) else if k = 8 then decide (n = 1) else decide (n = 0)
def fitsS {α : Type} (x : Ns α) : Bool :=
  decide (1 ≤ x.op ∧ x.op ≤ 8) && (if namedS x.op = true then nameS x.name else decide (x.name = [])) && (if x.op = 5 then decide (0 ≤ x.from_ ∧ x.from_ ≤ x.to_ ∧ x.to_ ≤ 1099511627776) else decide (x.from_ = 0 ∧ x.to_ = 0)) && kidsOk x.op x.kids.length
theorem fits_iff {α : Type} (x : Ns α) : fitsS x = true ↔ (1 ≤ x.op ∧ x.op ≤ 8) ∧ (if namedS x.op = true then nameS x.name else decide (x.name = [])) = true ∧ (if x.op = 5 then decide (0 ≤ x.from_ ∧ x.from_ ≤ x.to_ ∧ x.to_ ≤ 1099511627776) else decide (x.from_ = 0 ∧ x.to_ = 0)) = true ∧ kidsOk x.op x.kids.length = true := by
  unfold fitsS
  simp only [Bool.and_eq_true, decide_eq_true_eq, and_assoc]
def okS : (f : Nat) → Sc f → Int → Bool
  | 0, x, _ => nomatch x
  | f + 1, (x : Ns (Sc f)), d => decide (1 ≤ d) && fitsS x && x.kids.all fun u => okS f u (d - 1)
def nodesS : (f : Nat) → Sc f → Nat
  | 0, x => nomatch x
  | f + 1, (x : Ns (Sc f)) => 1 + (x.kids.map (nodesS f)).sum
def mayS (f : Nat) (x : Sc f) : Bool := okS f x 8 && decide (nodesS f x ≤ 24)
theorem okS_eq (f : Nat) (x : Ns (Sc f)) (d : Int) : okS (f + 1) x d = (decide (1 ≤ d) && fitsS x && x.kids.all fun u => okS f u (d - 1)) := rfl
theorem nodesS_eq (f : Nat) (x : Ns (Sc f)) : nodesS (f + 1) x = 1 + (x.kids.map (nodesS f)).sum := rfl
theorem nodesS_pos : ∀ (f : Nat) (x : Sc f), 1 ≤ nodesS f x
  | 0, x => nomatch x
  | f + 1, (x : Ns (Sc f)) => by rw [nodesS_eq]; omega
theorem nodesS_kid (f : Nat) : ∀ (ks : List (Sc f)) (k : Sc f), k ∈ ks → nodesS f k ≤ (ks.map (nodesS f)).sum
  | [], _, h => by cases h
  | a :: l, k, h => by
    rw [List.map_cons, List.sum_cons]
    cases h with
    | head => omega
    | tail _ h => have := nodesS_kid f l k h; omega
theorem nodesS_len (f : Nat) : ∀ (ks : List (Sc f)), ks.length ≤ (ks.map (nodesS f)).sum
  | [] => by simp
  | a :: l => by
    rw [List.map_cons, List.sum_cons, List.length_cons]
    have := nodesS_len f l
    have := nodesS_pos f a
    omega
theorem sameSL_all {α β : Type} {g : α → β → Bool} {p : α → Bool} {q : β → Bool} (h : ∀ a b, g a b = true → p a = q b) : ∀ (l : List α) (m : List β), sameSL g l m = true → l.all p = m.all q
  | [], [], _ => rfl
  | [], b :: m, e => by simp [sameSL] at e
  | a :: l, [], e => by simp [sameSL] at e
  | a :: l, b :: m, e => by
    rw [sameSL, Bool.and_eq_true] at e
    rw [List.all_cons, List.all_cons, h a b e.1, sameSL_all h l m e.2]
theorem sameSL_any {α β : Type} {g : α → β → Bool} {p : α → Bool} {q : β → Bool} (h : ∀ a b, g a b = true → p a = q b) : ∀ (l : List α) (m : List β), sameSL g l m = true → l.any p = m.any q
  | [], [], _ => rfl
  | [], b :: m, e => by simp [sameSL] at e
  | a :: l, [], e => by simp [sameSL] at e
  | a :: l, b :: m, e => by
    rw [sameSL, Bool.and_eq_true] at e
    rw [List.any_cons, List.any_cons, h a b e.1, sameSL_any h l m e.2]
theorem sameSL_mapeq {α β γ : Type} {g : α → β → Bool} {p : α → γ} {q : β → γ} (h : ∀ a b, g a b = true → p a = q b) : ∀ (l : List α) (m : List β), sameSL g l m = true → l.map p = m.map q
  | [], [], _ => rfl
  | [], b :: m, e => by simp [sameSL] at e
  | a :: l, [], e => by simp [sameSL] at e
  | a :: l, b :: m, e => by
    rw [sameSL, Bool.and_eq_true] at e
    rw [List.map_cons, List.map_cons, h a b e.1, sameSL_mapeq h l m e.2]
theorem same_ok : ∀ (f g : Nat) (a : Sc f) (b : Sc g) (d : Int), sameS f g a b = true → okS f a d = okS g b d
  | 0, _, a, _, _, _ => nomatch a
  | _ + 1, 0, _, b, _, _ => nomatch b
  | f + 1, g + 1, (a : Ns (Sc f)), (b : Ns (Sc g)), d, e => by
    obtain ⟨h1, h2, h3, h4, h5⟩ := sameS_parts.1 e
    rw [okS_eq, okS_eq, sameSL_all (fun x y h => same_ok f g x y (d - 1) h) _ _ h5]
    have : fitsS a = fitsS b := by unfold fitsS; rw [h1, h2, h3, h4, sameSL_len _ _ h5]
    rw [this]
theorem same_nodes : ∀ (f g : Nat) (a : Sc f) (b : Sc g), sameS f g a b = true → nodesS f a = nodesS g b
  | 0, _, a, _, _ => nomatch a
  | _ + 1, 0, _, b, _ => nomatch b
  | f + 1, g + 1, (a : Ns (Sc f)), (b : Ns (Sc g)), e => by
    obtain ⟨_, _, _, _, h5⟩ := sameS_parts.1 e
    rw [nodesS_eq, nodesS_eq, sameSL_mapeq (fun x y h => same_nodes f g x y h) _ _ h5]
theorem zsame_may {f g : Nat} {a : Sc f} {b : Sc g} (e : sameS f g a b = true) : mayS f a = mayS g b := by
  unfold mayS; rw [same_ok f g a b 8 e, same_nodes f g a b e]
structure Rc where
  cse : List UInt8
  sub : List UInt8
  cls : List UInt8
  tick : Int
def matchS (r : Rc) : (f : Nat) → Sc f → Bool
  | 0, x => nomatch x
  | f + 1, (x : Ns (Sc f)) =>
    if x.op = 1 then true
    else if x.op = 2 then decide (r.cse = x.name)
    else if x.op = 3 then decide (r.sub = x.name)
    else if x.op = 4 then decide (r.cls = x.name)
    else if x.op = 5 then decide (x.from_ ≤ r.tick ∧ r.tick ≤ x.to_)
    else if x.op = 6 then x.kids.all (matchS r f)
    else if x.op = 7 then x.kids.any (matchS r f)
    else if x.op = 8 then !((x.kids.head?.map (matchS r f)).getD false)
    else false
theorem match_eq (r : Rc) (f : Nat) (x : Ns (Sc f)) : matchS r (f + 1) x =
    if x.op = 1 then true
    else if x.op = 2 then decide (r.cse = x.name)
    else if x.op = 3 then decide (r.sub = x.name)
    else if x.op = 4 then decide (r.cls = x.name)
    else if x.op = 5 then decide (x.from_ ≤ r.tick ∧ r.tick ≤ x.to_)
    else if x.op = 6 then x.kids.all (matchS r f)
    else if x.op = 7 then x.kids.any (matchS r f)
    else if x.op = 8 then !((x.kids.head?.map (matchS r f)).getD false)
    else false := rfl
theorem match_all (r : Rc) (f : Nat) {x : Ns (Sc f)} (h : x.op = 6) : matchS r (f + 1) x = x.kids.all (matchS r f) := by rw [match_eq, h]; rfl
theorem match_any (r : Rc) (f : Nat) {x : Ns (Sc f)} (h : x.op = 7) : matchS r (f + 1) x = x.kids.any (matchS r f) := by rw [match_eq, h]; rfl
theorem match_not (r : Rc) (f : Nat) {x : Ns (Sc f)} (h : x.op = 8) : matchS r (f + 1) x = !((x.kids.head?.map (matchS r f)).getD false) := by rw [match_eq, h]; rfl
theorem match_lift (r : Rc) : ∀ (f : Nat) (x : Sc f), matchS r (f + 1) (liftS f x) = matchS r f x
  | 0, x => nomatch x
  | f + 1, (x : Ns (Sc f)) => by
    show matchS r (f + 2) (⟨x.op, x.name, x.from_, x.to_, x.kids.map (liftS f)⟩ : Ns (Sc (f + 1))) = _
    have e : (matchS r (f + 1) ∘ liftS f) = matchS r f := funext fun k => match_lift r f k
    rw [match_eq, match_eq, List.all_map, List.any_map, List.head?_map, Option.map_map, e]
def notS {f : Nat} (x : Sc f) : Sc (f + 1) := (⟨8, [], 0, 0, [x]⟩ : Ns (Sc f))
def andsS {f : Nat} (l : List (Sc f)) : Sc (f + 1) := (⟨6, [], 0, 0, l⟩ : Ns (Sc f))
def orsS {f : Nat} (l : List (Sc f)) : Sc (f + 1) := (⟨7, [], 0, 0, l⟩ : Ns (Sc f))
theorem not_is (r : Rc) {f : Nat} (x : Sc f) : matchS r (f + 1) (notS x) = !matchS r f x := match_not r f rfl
theorem and_is (r : Rc) {f : Nat} (x y : Sc f) : matchS r (f + 1) (andsS [x, y]) = (matchS r f x && matchS r f y) := by
  rw [show matchS r (f + 1) (andsS [x, y]) = _ from match_all r f rfl]
  simp [andsS]
theorem or_is (r : Rc) {f : Nat} (x y : Sc f) : matchS r (f + 1) (orsS [x, y]) = (matchS r f x || matchS r f y) := by
  rw [show matchS r (f + 1) (orsS [x, y]) = _ from match_any r f rfl]
  simp [orsS]
theorem scope_nots (r : Rc) {f : Nat} (x y : Sc f) : matchS r (f + 2) (notS (andsS [x, y])) = matchS r (f + 2) (orsS [notS x, notS y]) ∧ matchS r (f + 2) (notS (orsS [x, y])) = matchS r (f + 2) (andsS [notS x, notS y]) ∧ matchS r (f + 2) (notS (notS x)) = matchS r f x := by
  refine ⟨?_, ?_, ?_⟩
  · rw [not_is, and_is, or_is, not_is, not_is, Bool.not_and]
  · rw [not_is, or_is, and_is, not_is, not_is, Bool.not_or]
  · rw [not_is, not_is, Bool.not_not]
def zheadS {α : Type} (x : Ns α) : List UInt8 :=
  UInt8.ofNat (x.op % 256).toNat :: ((if namedS x.op = true then texb x.name else []) ++ ((if x.op = 5 then numb x.from_.toNat ++ numb x.to_.toNat else []) ++ (if manyS x.op = true then numb x.kids.length else [])))
def bytesS : (f : Nat) → Sc f → List UInt8
  | 0, x => nomatch x
  | f + 1, (x : Ns (Sc f)) => zheadS x ++ (x.kids.map (bytesS f)).flatten
theorem bytesS_eq (f : Nat) (x : Ns (Sc f)) : bytesS (f + 1) x = zheadS x ++ (x.kids.map (bytesS f)).flatten := rfl
def putSc (f : Nat) (x : Sc f) : List UInt8 × Int := if mayS f x = true then (bytesS f x, 0) else ([], 1)
theorem same_bytes : ∀ (f g : Nat) (a : Sc f) (b : Sc g), sameS f g a b = true → bytesS f a = bytesS g b
  | 0, _, a, _, _ => nomatch a
  | _ + 1, 0, _, b, _ => nomatch b
  | f + 1, g + 1, (a : Ns (Sc f)), (b : Ns (Sc g)), e => by
    obtain ⟨h1, h2, h3, h4, h5⟩ := sameS_parts.1 e
    have : zheadS a = zheadS b := by unfold zheadS; rw [h1, h2, h3, h4, sameSL_len _ _ h5]
    rw [bytesS_eq, bytesS_eq, this, sameSL_mapeq (fun x y h => same_bytes f g x y h) _ _ h5]
def zeroNs {α : Type} : Ns α := ⟨0, [], 0, 0, []⟩
def kidsR {α : Type} (g : Option (List UInt8) → Option (List UInt8) × α) : Nat → Option (List UInt8) → Option (List UInt8) × List α
  | 0, st => (st, [])
  | n + 1, none => (none, [])
  | n + 1, some l => ((kidsR g n (g (some l)).1).1, (g (some l)).2 :: (kidsR g n (g (some l)).1).2)
def nameR (k : Int) (st : Option (List UInt8)) : Option (List UInt8) × List UInt8 := if namedS k = true then txtOf 16 st else (st, [])
def tickR (k : Int) (st : Option (List UInt8)) : Option (List UInt8) × Nat := if k = 5 then cntOf 1099511627776 st else (st, 0)
def manyR (k : Int) (st : Option (List UInt8)) : Option (List UInt8) × Nat := if manyS k = true then cntOf 24 st else if k = 8 then (st, 1) else (st, 0)
def readSc : (deep : Nat) → Option (List UInt8) → Option (List UInt8) × Ns (Sc deep)
  | 0, _ => (none, zeroNs)
  | _ + 1, none => (none, zeroNs)
  | _ + 1, some [] => (none, zeroNs)
  | d + 1, some (b :: l) =>
    let k : Int := b.toNat
    let r1 := nameR k (some l)
    let r2 := tickR k r1.1
    let r3 := tickR k r2.1
    let r4 := manyR k r3.1
    let r5 := kidsR (readSc d) r4.2 r4.1
    (r5.1, ⟨k, r1.2, (r2.2 : Int), (r3.2 : Int), r5.2⟩)
theorem rs_zero (st : Option (List UInt8)) : readSc 0 st = (none, zeroNs) := by cases st <;> rfl
theorem rs_none (d : Nat) : readSc d none = (none, zeroNs) := by cases d <;> rfl
theorem rs_nil (d : Nat) : readSc d (some []) = (none, zeroNs) := by cases d <;> rfl
theorem rs_cons (d : Nat) (b : UInt8) (l : List UInt8) : readSc (d + 1) (some (b :: l)) =
    ((kidsR (readSc d) (manyR (b.toNat : Int) (tickR (b.toNat : Int) (tickR (b.toNat : Int) (nameR (b.toNat : Int) (some l)).1).1).1).2 (manyR (b.toNat : Int) (tickR (b.toNat : Int) (tickR (b.toNat : Int) (nameR (b.toNat : Int) (some l)).1).1).1).1).1,
      ⟨(b.toNat : Int), (nameR (b.toNat : Int) (some l)).2, ((tickR (b.toNat : Int) (nameR (b.toNat : Int) (some l)).1).2 : Int), ((tickR (b.toNat : Int) (tickR (b.toNat : Int) (nameR (b.toNat : Int) (some l)).1).1).2 : Int),
        (kidsR (readSc d) (manyR (b.toNat : Int) (tickR (b.toNat : Int) (tickR (b.toNat : Int) (nameR (b.toNat : Int) (some l)).1).1).1).2 (manyR (b.toNat : Int) (tickR (b.toNat : Int) (tickR (b.toNat : Int) (nameR (b.toNat : Int) (some l)).1).1).1).1).2⟩) := rfl
def getSc (b : List UInt8) : Ns (Sc 8) × Int := if (readSc 8 (some b)).1 = some [] ∧ mayS 9 (readSc 8 (some b)).2 = true then ((readSc 8 (some b)).2, 0) else (zeroNs, 2)
end
section
open Go.Lib
def unitD (c : Nat) : Nat := if c = 100 then 1 else if c = 119 then 7 else if c = 109 then 30 else if c = 121 then 365 else 0
def daysD (n : Int) (c : Nat) : Int × Int :=
  if n < 0 ∨ unitD c = 0 then (0, 1) else if (1048576 : Int) / (unitD c : Int) < n then (0, 16) else (n * (unitD c : Int), 0)
def numF : Nat → List UInt8 → Option Nat
  | n, [] => some n
  | n, b :: l => if 48 ≤ b.toNat ∧ b.toNat ≤ 57 then numF (10 * n + (b.toNat - 48)) l else none
def numD (l : List UInt8) : Option Nat := if l.length < 1 ∨ 7 < l.length ∨ (l.head? = some 48 ∧ 1 < l.length) then none else numF 0 l
def parseD (l : List UInt8) : Int × Int :=
  match l.getLast? with
  | none => (0, 2)
  | some c => if unitD c.toNat = 0 then (0, 2) else match numD l.dropLast with
    | none => (0, 2)
    | some n => daysD (n : Int) c.toNat
def greatD (d : Nat) : UInt8 := if d = 0 then 100 else if d % 365 = 0 then 121 else if d % 30 = 0 then 109 else if d % 7 = 0 then 119 else 100
def textD (d : Int) : List UInt8 := if d < 0 ∨ 1048576 < d then [] else decDigits (d.toNat / unitD (greatD d.toNat).toNat) ++ [greatD d.toNat]
def afterD (t d : Int) : Int × Bool := if t < 0 ∨ 1099511627776 < t ∨ d < 0 ∨ 1048576 < d ∨ 1099511627776 < t + d then (0, false) else (t + d, true)
def addD (t n : Int) : Int × Int := if t < 0 ∨ 1099511627776 < t ∨ n < 1 then (0, 1) else if 1099511627776 - t < n then (0, 16) else (t + n, 0)
theorem unit_cases (c : Nat) : unitD c = 0 ∨ (c = 100 ∧ unitD c = 1) ∨ (c = 119 ∧ unitD c = 7) ∨ (c = 109 ∧ unitD c = 30) ∨ (c = 121 ∧ unitD c = 365) := by
  unfold unitD
  split
  · simp [*]
  · split
    · simp [*]
    · split
      · simp [*]
      · split
        · simp [*]
        · simp
theorem great_unit (d : Nat) : (greatD d = 100 ∧ unitD (greatD d).toNat = 1) ∨ (greatD d = 119 ∧ unitD (greatD d).toNat = 7) ∨ (greatD d = 109 ∧ unitD (greatD d).toNat = 30) ∨ (greatD d = 121 ∧ unitD (greatD d).toNat = 365) := by
  unfold greatD
  repeat' split
  all_goals simp [unitD]
theorem great_pos (d : Nat) : 1 ≤ unitD (greatD d).toNat ∧ unitD (greatD d).toNat ≤ 365 := by
  rcases great_unit d with h | h | h | h <;> (rw [h.2]; omega)
theorem great_divides (d : Nat) : d % unitD (greatD d).toNat = 0 := by
  unfold greatD
  repeat' split
  all_goals (simp [unitD]; try omega)
theorem great_most (n : Nat) (c : Nat) (hn : 0 < n * unitD c) : unitD c ≤ unitD (greatD (n * unitD c)).toNat := by
  rcases unit_cases c with h | ⟨_, h⟩ | ⟨_, h⟩ | ⟨_, h⟩ | ⟨_, h⟩
  · rw [h]; omega
  · rw [h]; exact (great_pos _).1
  all_goals
    rw [h] at hn ⊢
    unfold greatD
    rw [if_neg (by omega)]
    repeat' split
    all_goals first | omega | (simp [unitD]; done) | (exfalso; omega)
theorem numF_append : ∀ (l m : List UInt8) (n : Nat), numF n (l ++ m) = (numF n l).bind fun k => numF k m
  | [], m, n => rfl
  | b :: l, m, n => by
    simp only [List.cons_append, numF]
    by_cases h : 48 ≤ b.toNat ∧ b.toNat ≤ 57
    · rw [if_pos h, if_pos h]; exact numF_append l m _
    · rw [if_neg h, if_neg h]; rfl
theorem digit_nat (k : Nat) (h : k < 10) : (UInt8.ofNat (48 + k)).toNat = 48 + k := by
  rw [UInt8.toNat_ofNat']; omega
theorem numF_digits (k : Nat) : numF 0 (decDigits k) = some k := by
  induction k using Nat.strongRecOn with
  | _ k ih =>
    by_cases h : k < 10
    · rw [decDigits_one h]
      simp only [numF]
      rw [digit_nat k h, if_pos (by omega)]
      congr 1
      omega
    · rw [decDigits, dif_neg h, numF_append, ih (k / 10) (by omega)]
      simp only [Option.bind_some, numF]
      rw [digit_nat (k % 10) (by omega), if_pos (by omega)]
      congr 1
      omega
theorem digits_pos (k : Nat) : 1 ≤ (decDigits k).length := by rw [decDigits_length]; exact nDigits_pos k
theorem digits_head (k : Nat) (h : 1 ≤ k) : (decDigits k).head? ≠ some 48 := by
  induction k using Nat.strongRecOn with
  | _ k ih =>
    by_cases h9 : k < 10
    · rw [decDigits_one h9]
      intro e
      simp only [List.head?_cons, Option.some.injEq] at e
      have := congrArg UInt8.toNat e
      rw [digit_nat k h9] at this
      simp at this
      omega
    · rw [decDigits, dif_neg h9]
      have := ih (k / 10) (by omega) (by omega)
      have hp := digits_pos (k / 10)
      cases hd : decDigits (k / 10) with
      | nil => rw [hd] at hp; simp at hp
      | cons a t => rw [hd] at this; simpa using this
theorem numF_bounds : ∀ (l : List UInt8) (n k : Nat), numF n l = some k → n * 10 ^ l.length ≤ k ∧ k < (n + 1) * 10 ^ l.length
  | [], n, k, h => by
    simp only [numF, Option.some.injEq] at h
    subst h
    simp
  | b :: l, n, k, h => by
    simp only [numF] at h
    by_cases hb : 48 ≤ b.toNat ∧ b.toNat ≤ 57
    · rw [if_pos hb] at h
      obtain ⟨h1, h2⟩ := numF_bounds l _ _ h
      rw [List.length_cons, Nat.pow_succ]
      generalize 10 ^ l.length = p at h1 h2 ⊢
      constructor
      · calc n * (p * 10) = 10 * n * p := by rw [Nat.mul_comm p 10, ← Nat.mul_assoc, Nat.mul_comm n 10]
          _ ≤ (10 * n + (b.toNat - 48)) * p := Nat.mul_le_mul_right _ (by omega)
          _ ≤ k := h1
      · calc k < (10 * n + (b.toNat - 48) + 1) * p := h2
          _ ≤ ((n + 1) * 10) * p := Nat.mul_le_mul_right _ (by omega)
          _ = (n + 1) * (p * 10) := by rw [Nat.mul_assoc, Nat.mul_comm 10 p]
    · rw [if_neg hb] at h; cases h
theorem numD_some {l : List UInt8} {n : Nat} (h : numD l = some n) : 1 ≤ l.length ∧ l.length ≤ 7 ∧ (l.head? = some 48 → l.length = 1) ∧ numF 0 l = some n := by
  unfold numD at h
  by_cases hc : l.length < 1 ∨ 7 < l.length ∨ (l.head? = some 48 ∧ 1 < l.length)
  · rw [if_pos hc] at h; cases h
  · rw [if_neg hc] at h
    refine ⟨by omega, by omega, fun hh => ?_, h⟩
    by_cases h1 : 1 < l.length
    · exact absurd (.inr (.inr ⟨hh, h1⟩)) hc
    · omega
theorem numD_length {l : List UInt8} {n : Nat} (h : numD l = some n) : l.length = nDigits n := by
  obtain ⟨h1, h7, hh, hn⟩ := numD_some h
  cases l with
  | nil => simp at h1
  | cons b l =>
    simp only [numF] at hn
    by_cases hb : 48 ≤ b.toNat ∧ b.toNat ≤ 57
    · rw [if_pos hb] at hn
      obtain ⟨l1, l2⟩ := numF_bounds l _ _ hn
      by_cases h0 : b.toNat = 48
      · have hb48 : b = 48 := UInt8.toNat.inj (by rw [h0]; rfl)
        have := hh (by rw [hb48]; rfl)
        have hl : l = [] := List.length_eq_zero_iff.1 (by simpa using this)
        subst hl
        simp only [numF, Option.some.injEq] at hn
        rw [nDigits_small (by omega)]
        rfl
      · refine (nDigits_unique l.length n ?_ ?_).symm
        · calc 10 ^ l.length = 1 * 10 ^ l.length := (Nat.one_mul _).symm
            _ ≤ (10 * 0 + (b.toNat - 48)) * 10 ^ l.length := Nat.mul_le_mul_right _ (by omega)
            _ ≤ n := l1
        · calc n < (10 * 0 + (b.toNat - 48) + 1) * 10 ^ l.length := l2
            _ ≤ 10 * 10 ^ l.length := Nat.mul_le_mul_right _ (by omega)
            _ = 10 ^ (l.length + 1) := by rw [Nat.pow_succ, Nat.mul_comm]
    · rw [if_neg hb] at hn; cases hn
theorem nDigits_mono : ∀ (a b : Nat), a ≤ b → nDigits a ≤ nDigits b := by
  intro a
  induction a using Nat.strongRecOn with
  | _ a ih =>
    intro b hab
    by_cases ha : a < 10
    · rw [nDigits_small ha]; exact nDigits_pos b
    · rw [nDigits_big ha, nDigits_big (u := b) (by omega)]
      have := ih (a / 10) (by omega) (b / 10) (Nat.div_le_div_right hab)
      omega
theorem nDigits_seven (k : Nat) (h : k ≤ 1048576) : nDigits k ≤ 7 := by
  have := nDigits_mono k 1048576 h
  have e : nDigits 1048576 = 7 := nDigits_unique 6 _ (by decide) (by decide)
  omega
theorem numD_digits (k : Nat) (h : k ≤ 1048576) : numD (decDigits k) = some k := by
  unfold numD
  have h1 := digits_pos k
  have h7 := nDigits_seven k h
  rw [← decDigits_length] at h7
  rw [if_neg, numF_digits]
  rintro (a | a | ⟨a, b⟩)
  · omega
  · omega
  · by_cases h0 : 1 ≤ k
    · exact digits_head k h0 a
    · have hk : k = 0 := by omega
      subst hk
      rw [decDigits_one (by omega)] at b
      simp at b
theorem text_none (d : Int) : textD d = [] ↔ (d < 0 ∨ 1048576 < d) := by
  unfold textD
  by_cases h : d < 0 ∨ 1048576 < d
  · rw [if_pos h]; simp [h]
  · rw [if_neg h]; simp [h]
theorem parse_text (d : Int) (h0 : 0 ≤ d) (h1 : d ≤ 1048576) : parseD (textD d) = (d, 0) := by
  obtain ⟨k, rfl⟩ : ∃ k : Nat, d = (k : Int) := ⟨d.toNat, by omega⟩
  unfold textD parseD
  rw [if_neg (by omega)]
  simp only [Int.toNat_natCast]
  rw [List.getLast?_concat, List.dropLast_concat]
  have hp := great_pos k
  have hd := great_divides k
  generalize greatD k = c at hp hd ⊢
  simp only
  rw [if_neg (by omega), numD_digits _ (Nat.le_trans (Nat.div_le_self _ _) (by omega))]
  simp only
  unfold daysD
  generalize unitD c.toNat = u at hp hd ⊢
  have hq : k / u ≤ 1048576 / u := Nat.div_le_div_right (by omega)
  have hm : k / u * u = k := by
    have := Nat.div_add_mod k u
    rw [hd, Nat.mul_comm] at this
    omega
  have hneg : ¬ (((k / u : Nat) : Int) < 0 ∨ u = 0) := by
    generalize k / u = q
    omega
  rw [if_neg hneg]
  have e1 : ¬ ((1048576 : Int) / (u : Int) < ((k / u : Nat) : Int)) := by
    have : (1048576 : Int) / (u : Int) = ((1048576 / u : Nat) : Int) := rfl
    rw [this]
    omega
  rw [if_neg e1]
  have e2 : ((k / u : Nat) : Int) * (u : Int) = (k : Int) := by
    rw [← Int.natCast_mul, hm]
  rw [e2]
theorem text_parse (l : List UInt8) (h : (parseD l).2 = 0) : 0 ≤ (parseD l).1 ∧ (parseD l).1 ≤ 1048576 ∧ (textD (parseD l).1).length ≤ l.length := by
  unfold parseD at h ⊢
  cases hl : l.getLast? with
  | none => rw [hl] at h; simp at h
  | some c =>
    rw [hl] at h
    simp only at h ⊢
    by_cases hu : unitD c.toNat = 0
    · rw [if_pos hu] at h; simp at h
    · rw [if_neg hu] at h ⊢
      cases hn : numD l.dropLast with
      | none => rw [hn] at h; simp at h
      | some n =>
        rw [hn] at h
        simp only at h ⊢
        unfold daysD at h ⊢
        have hneg : ¬ ((n : Int) < 0 ∨ unitD c.toNat = 0) := by omega
        rw [if_neg hneg] at h ⊢
        by_cases hb : (1048576 : Int) / (unitD c.toNat : Int) < (n : Int)
        · rw [if_pos hb] at h; simp at h
        · rw [if_neg hb]
          have hlen : l.dropLast.length = nDigits n := numD_length hn
          have hne : 0 < l.length := by cases l with
            | nil => simp at hl
            | cons a t => simp
          rw [List.length_dropLast] at hlen
          have hnp := nDigits_pos n
          have hq : n ≤ 1048576 / unitD c.toNat := by
            have : (1048576 : Int) / (unitD c.toNat : Int) = ((1048576 / unitD c.toNat : Nat) : Int) := rfl
            rw [this] at hb
            omega
          have hm : n * unitD c.toNat ≤ 1048576 := Nat.le_trans (Nat.mul_le_mul_right _ hq) (Nat.div_mul_le_self _ _)
          have e2 : (n : Int) * (unitD c.toNat : Int) = ((n * unitD c.toNat : Nat) : Int) := by rw [Int.natCast_mul]
          rw [e2]
          refine ⟨by omega, by omega, ?_⟩
          unfold textD
          rw [if_neg (by omega)]
          simp only [Int.toNat_natCast, List.length_append, List.length_singleton, decDigits_length]
          have hle : n * unitD c.toNat / unitD (greatD (n * unitD c.toNat)).toNat ≤ n := by
            by_cases h0 : n * unitD c.toNat = 0
            · rw [h0]; simp
            · have hg := great_most n c.toNat (by omega)
              refine Nat.div_le_of_le_mul ?_
              rw [Nat.mul_comm (unitD (greatD (n * unitD c.toNat)).toNat) n]
              exact Nat.mul_le_mul_left n hg
          have := nDigits_mono _ _ hle
          omega
end
end Go.Proofs.YtjecjlhofnnnpaaGreatDoor
