/-
  The plain mathematics of tlv: what bytes a number has, what number bytes have, what a reader answers. No condition; nothing of the dump is used here.
-/
import Derived.Test.YtgahnjhibpcbaaaMem
namespace Go.Proofs.Ytgahnjhibpcbaaa

/-- The number of bytes, the highest first. -/
def val : List UInt8 → Nat
  | [] => 0
  | b :: l => b.toNat * 256 ^ l.length + val l

theorem val_lt (l : List UInt8) : val l < 256 ^ l.length := by
  induction l with
  | nil => simp [val]
  | cons b l ih =>
    have hb := b.toNat_lt
    have h1 : b.toNat * 256 ^ l.length ≤ 255 * 256 ^ l.length := Nat.mul_le_mul_right _ (by omega)
    simp only [val, List.length_cons, Nat.pow_succ]
    omega

theorem val_snoc (l : List UInt8) (b : UInt8) : val (l ++ [b]) = val l * 256 + b.toNat := by
  induction l with
  | nil => simp [val]
  | cons c l ih =>
    simp only [List.cons_append, val, ih, List.length_append, List.length_cons, List.length_nil, Nat.zero_add, Nat.pow_succ, Nat.add_mul, Nat.mul_assoc]
    omega

theorem val_take_succ (l : List UInt8) (k : Nat) (h : k < l.length) : val (l.take (k + 1)) = val (l.take k) * 256 + (l[k]).toNat := by
  rw [List.take_succ_eq_append_getElem h, val_snoc]

theorem val_lt_eight (l : List UInt8) (h : l.length ≤ 8) : val l < 18446744073709551616 :=
  Nat.lt_of_lt_of_le (val_lt l) (Nat.le_trans (Nat.pow_le_pow_right (by omega) h) (by decide))

theorem val_lt_seven (l : List UInt8) (h : l.length ≤ 7) : val l < 72057594037927936 :=
  Nat.lt_of_lt_of_le (val_lt l) (Nat.le_trans (Nat.pow_le_pow_right (by omega) h) (by decide))

/-- The bytes of a number, the highest first, none for 0; f: as many as there may be. -/
def dig : Nat → Nat → List UInt8
  | 0, _ => []
  | f + 1, n => if n = 0 then [] else dig f (n / 256) ++ [UInt8.ofNat (n % 256)]

/-- Num: how many bytes, and these. -/
def numb (n : Nat) : List UInt8 := UInt8.ofNat (dig 8 n).length :: dig 8 n

/-- Text: how many bytes, and these. -/
def texb (l : List UInt8) : List UInt8 := numb l.length ++ l

theorem dig_length_le (f n : Nat) : (dig f n).length ≤ f := by
  induction f generalizing n with
  | zero => simp [dig]
  | succ f ih =>
    simp only [dig]
    split
    · simp
    · have := ih (n / 256)
      simp
      omega

theorem dig_val (f n : Nat) (h : n < 256 ^ f) : val (dig f n) = n := by
  induction f generalizing n with
  | zero => simp at h; subst h; rfl
  | succ f ih =>
    simp only [dig]
    split
    · rename_i h0; subst h0; rfl
    · rw [val_snoc, ih (n / 256) (by rw [Nat.pow_succ] at h; omega)]
      have : (UInt8.ofNat (n % 256)).toNat = n % 256 := by simp
      omega

theorem dig_head (f n : Nat) (h : n < 256 ^ f) : (dig f n).head? ≠ some 0 := by
  induction f generalizing n with
  | zero => simp [dig]
  | succ f ih =>
    simp only [dig]
    split
    · simp
    · rename_i h0
      have hd := ih (n / 256) (by rw [Nat.pow_succ] at h; omega)
      by_cases hq : n / 256 = 0
      · have e : dig f (n / 256) = [] := by rw [hq]; cases f <;> simp [dig]
        rw [e]
        simp only [List.nil_append, List.head?_cons, ne_eq, Option.some.injEq]
        intro hx
        have := congrArg UInt8.toNat hx
        simp at this
        omega
      · cases hq' : dig f (n / 256) with
        | nil =>
          have hv := dig_val f (n / 256) (by rw [Nat.pow_succ] at h; omega)
          rw [hq'] at hv
          simp [val] at hv
          omega
        | cons x l =>
          rw [hq'] at hd
          simpa using hd

/-- Bytes that don't begin with 0 are those of their number. -/
theorem dig_of_val (f : Nat) (l : List UInt8) (hl : l.length ≤ f) (h0 : l.head? ≠ some 0) : dig f (val l) = l := by
  induction f generalizing l with
  | zero =>
    have : l = [] := List.eq_nil_of_length_eq_zero (by omega)
    subst this; rfl
  | succ f ih =>
    rcases List.eq_nil_or_concat l with rfl | ⟨m, b, rfl⟩
    · simp [val, dig]
    · rw [List.concat_eq_append] at *
      have hb := b.toNat_lt
      rw [val_snoc]
      have hne : val m * 256 + b.toNat ≠ 0 := by
        intro hz
        cases m with
        | nil =>
          simp [val] at hz
          apply h0
          simp
          exact UInt8.toNat_inj.1 (by simpa using hz)
        | cons c m =>
          have hc : c.toNat = 0 := by
            simp only [val] at hz
            have hp : 0 < 256 ^ m.length := Nat.pow_pos (by omega)
            rcases Nat.eq_zero_or_pos c.toNat with h | h
            · exact h
            · have := Nat.mul_pos h hp; omega
          apply h0
          simp
          exact UInt8.toNat_inj.1 (by simpa using hc)
      simp only [dig, if_neg hne]
      rw [show (val m * 256 + b.toNat) / 256 = val m by omega, show (val m * 256 + b.toNat) % 256 = b.toNat by omega, ih m (by simp at hl; omega) (by
        cases m with
        | nil => simp
        | cons c m => simpa using h0)]
      simp

/-- What a number is read as, and what is left behind it (none: it failed). -/
def numOf : Option (List UInt8) → Option (List UInt8) × Nat
  | some (h :: t) => if 8 < h.toNat ∨ t.length < h.toNat ∨ (t.take h.toNat).head? = some 0 then (none, 0) else (some (t.drop h.toNat), val (t.take h.toNat))
  | _ => (none, 0)

theorem numOf_lt (st : Option (List UInt8)) : (numOf st).2 < 18446744073709551616 := by
  unfold numOf
  split
  · split
    · simp
    · exact val_lt_eight _ (by simp; omega)
  · simp

theorem numOf_numb (n : Nat) (l : List UInt8) (h : n < 18446744073709551616) : numOf (some (numb n ++ l)) = (some l, n) := by
  have h1 := dig_length_le 8 n
  have h2 : (UInt8.ofNat (dig 8 n).length).toNat = (dig 8 n).length := by simp; omega
  have h3 : (dig 8 n ++ l).take (dig 8 n).length = dig 8 n := List.take_left
  have h4 : (dig 8 n ++ l).drop (dig 8 n).length = l := List.drop_left
  have h5 := dig_head 8 n (by simpa using h)
  simp only [numb, List.cons_append, numOf, h2, h3, h4]
  rw [if_neg (by simp; exact ⟨by omega, h5⟩), dig_val 8 n (by simpa using h)]

/-- What is read as a number is what is made of it. -/
theorem numb_numOf (l l' : List UInt8) (n : Nat) (h : numOf (some l) = (some l', n)) : numb n ++ l' = l := by
  cases l with
  | nil => simp [numOf] at h
  | cons a t =>
    simp only [numOf] at h
    split at h
    · simp at h
    · rename_i hc
      simp only [Prod.mk.injEq, Option.some.injEq] at h
      obtain ⟨rfl, rfl⟩ := h
      have e := dig_of_val 8 (t.take a.toNat) (by simp; omega) (fun e => hc (.inr (.inr e)))
      have e2 : (t.take a.toNat).length = a.toNat := by simp; omega
      simp only [numb, e, e2, List.cons_append, List.take_append_drop]
      congr 1
      simp

/-- What is told of the first n bytes, and what is left: none where it failed. -/
def passed (n : Int) (st : Option (List UInt8)) : Option (List UInt8) × List UInt8 :=
  if n < 0 ∨ (st.getD []).length < n then (none, []) else (st.map (·.drop n.toNat), (st.getD []).take n.toNat)

/-- A number not above most, read. -/
def cntOf (most : Int) (st : Option (List UInt8)) : Option (List UInt8) × Nat :=
  if most < 0 ∨ most < (numOf st).2 then (none, 0) else numOf st

/-- A text of no more than most bytes, read. -/
def txtOf (most : Int) (st : Option (List UInt8)) : Option (List UInt8) × List UInt8 := passed (cntOf most st).2 (cntOf most st).1

end Go.Proofs.Ytgahnjhibpcbaaa
