/-
  TlvM: The plain mathematics of tlv: what bytes a number has, what number bytes have, what a reader answers. No condition; nothing of the dump is used here.
  TermM: Terms, plain mathematics: a tree of parts at most f deep; which may be, its bytes, how it is read, its parts. No program, no condition.
  Args: Arguments opened: a []byte that came in reads as bytes. No condition.
-/
import Derived.Test.YthgaljgelngmaaaDoorMem
import Derived.Test.YthgaljgelngmaaaDoorProg
import Derived.ProofKit
import Derived.OpenShut
import Derived.Lib.SmallJoins
import Derived.Deep.Slices

section
namespace Go.Proofs.YthgaljgelngmaaaDoor

/-- The number of bytes, the highest first. -/
def val : List UInt8 → Nat
  | [] => 0
  | b :: l => b.toNat * 256 ^ l.length + val l

theorem val_lt (l : List UInt8) : val l < 256 ^ l.length := by
  induction l with
  | nil => simp [val]
  | cons b l ih =>
    have hb := b.toNat_lt
    have h1 : b.toNat * 256 ^ l.length ≤ 255 * 256 ^ l.length := Nat.mul_le_mul_right _ (by omega)
    simp only [val, List.length_cons, Nat.pow_succ]
    omega

theorem val_snoc (l : List UInt8) (b : UInt8) : val (l ++ [b]) = val l * 256 + b.toNat := by
  induction l with
  | nil => simp [val]
  | cons c l ih =>
    simp only [List.cons_append, val, ih, List.length_append, List.length_cons, List.length_nil, Nat.zero_add, Nat.pow_succ, Nat.add_mul, Nat.mul_assoc]
    omega

theorem val_take_succ (l : List UInt8) (k : Nat) (h : k < l.length) : val (l.take (k + 1)) = val (l.take k) * 256 + (l[k]).toNat := by
  rw [List.take_succ_eq_append_getElem h, val_snoc]

theorem val_lt_eight (l : List UInt8) (h : l.length ≤ 8) : val l < 18446744073709551616 :=
  Nat.lt_of_lt_of_le (val_lt l) (Nat.le_trans (Nat.pow_le_pow_right (by omega) h) (by decide))

theorem val_lt_seven (l : List UInt8) (h : l.length ≤ 7) : val l < 72057594037927936 :=
  Nat.lt_of_lt_of_le (val_lt l) (Nat.le_trans (Nat.pow_le_pow_right (by omega) h) (by decide))

/-- The bytes of a number, the highest first, none for 0; f: as many as there may be. -/
def dig : Nat → Nat → List UInt8
  | 0, _ => []
  | f + 1, n => if n = 0 then [] else dig f (n / 256) ++ [UInt8.ofNat (n % 256)]

/-- Num: how many bytes, and these. -/
def numb (n : Nat) : List UInt8 := UInt8.ofNat (dig 8 n).length :: dig 8 n

/-- Text: how many bytes, and these. -/
def texb (l : List UInt8) : List UInt8 := numb l.length ++ l

theorem dig_length_le (f n : Nat) : (dig f n).length ≤ f := by
  induction f generalizing n with
  | zero => simp [dig]
  | succ f ih =>
    simp only [dig]
    split
    · simp
    · have := ih (n / 256)
      simp
      omega

theorem dig_val (f n : Nat) (h : n < 256 ^ f) : val (dig f n) = n := by
  induction f generalizing n with
  | zero => simp at h; subst h; rfl
  | succ f ih =>
    simp only [dig]
    split
    · rename_i h0; subst h0; rfl
    · rw [val_snoc, ih (n / 256) (by rw [Nat.pow_succ] at h; omega)]
      have : (UInt8.ofNat (n % 256)).toNat = n % 256 := by simp
      omega

theorem dig_head (f n : Nat) (h : n < 256 ^ f) : (dig f n).head? ≠ some 0 := by
  induction f generalizing n with
  | zero => simp [dig]
  | succ f ih =>
    simp only [dig]
    split
    · simp
    · rename_i h0
      have hd := ih (n / 256) (by rw [Nat.pow_succ] at h; omega)
      by_cases hq : n / 256 = 0
      · have e : dig f (n / 256) = [] := by rw [hq]; cases f <;> simp [dig]
        rw [e]
        simp only [List.nil_append, List.head?_cons, ne_eq, Option.some.injEq]
        intro hx
        have := congrArg UInt8.toNat hx
        simp at this
        omega
      · cases hq' : dig f (n / 256) with
        | nil =>
          have hv := dig_val f (n / 256) (by rw [Nat.pow_succ] at h; omega)
          rw [hq'] at hv
          simp [val] at hv
          omega
        | cons x l =>
          rw [hq'] at hd
          simpa using hd

/-- Bytes that don't begin with 0 are those of their number. -/
theorem dig_of_val (f : Nat) (l : List UInt8) (hl : l.length ≤ f) (h0 : l.head? ≠ some 0) : dig f (val l) = l := by
  induction f generalizing l with
  | zero =>
    have : l = [] := List.eq_nil_of_length_eq_zero (by omega)
    subst this; rfl
  | succ f ih =>
    rcases List.eq_nil_or_concat l with rfl | ⟨m, b, rfl⟩
    · simp [val, dig]
    · rw [List.concat_eq_append] at *
      have hb := b.toNat_lt
      rw [val_snoc]
      have hne : val m * 256 + b.toNat ≠ 0 := by
        intro hz
        cases m with
        | nil =>
          simp [val] at hz
          apply h0
          simp
          exact UInt8.toNat_inj.1 (by simpa using hz)
        | cons c m =>
          have hc : c.toNat = 0 := by
            simp only [val] at hz
            have hp : 0 < 256 ^ m.length := Nat.pow_pos (by omega)
            rcases Nat.eq_zero_or_pos c.toNat with h | h
            · exact h
            · have := Nat.mul_pos h hp; omega
          apply h0
          simp
          exact UInt8.toNat_inj.1 (by simpa using hc)
      simp only [dig, if_neg hne]
      rw [show (val m * 256 + b.toNat) / 256 = val m by omega, show (val m * 256 + b.toNat) % 256 = b.toNat by omega, ih m (by simp at hl; omega) (by
        cases m with
        | nil => simp
        | cons c m => simpa using h0)]
      simp

/-- What a number is read as, and what is left behind it (none: it failed). -/
def numOf : Option (List UInt8) → Option (List UInt8) × Nat
  | some (h :: t) => if 8 < h.toNat ∨ t.length < h.toNat ∨ (t.take h.toNat).head? = some 0 then (none, 0) else (some (t.drop h.toNat), val (t.take h.toNat))
  | _ => (none, 0)

theorem numOf_lt (st : Option (List UInt8)) : (numOf st).2 < 18446744073709551616 := by
  unfold numOf
  split
  · split
    · simp
    · exact val_lt_eight _ (by simp; omega)
  · simp

theorem numOf_numb (n : Nat) (l : List UInt8) (h : n < 18446744073709551616) : numOf (some (numb n ++ l)) = (some l, n) := by
  have h1 := dig_length_le 8 n
  have h2 : (UInt8.ofNat (dig 8 n).length).toNat = (dig 8 n).length := by simp; omega
  have h3 : (dig 8 n ++ l).take (dig 8 n).length = dig 8 n := List.take_left
  have h4 : (dig 8 n ++ l).drop (dig 8 n).length = l := List.drop_left
  have h5 := dig_head 8 n (by simpa using h)
  simp only [numb, List.cons_append, numOf, h2, h3, h4]
  rw [if_neg (by simp; exact ⟨by omega, h5⟩), dig_val 8 n (by simpa using h)]

/-- What is read as a number is what is made of it. -/
theorem numb_numOf (l l' : List UInt8) (n : Nat) (h : numOf (some l) = (some l', n)) : numb n ++ l' = l := by
  cases l with
  | nil => simp [numOf] at h
  | cons a t =>
    simp only [numOf] at h
    split at h
    · simp at h
    · rename_i hc
      simp only [Prod.mk.injEq, Option.some.injEq] at h
      obtain ⟨rfl, rfl⟩ := h
      have e := dig_of_val 8 (t.take a.toNat) (by simp; omega) (fun e => hc (.inr (.inr e)))
      have e2 : (t.take a.toNat).length = a.toNat := by simp; omega
      simp only [numb, e, e2, List.cons_append, List.take_append_drop]
      congr 1
      simp

/-- What is told of the first n bytes, and what is left: none where it failed. -/
def passed (n : Int) (st : Option (List UInt8)) : Option (List UInt8) × List UInt8 :=
  if n < 0 ∨ (st.getD []).length < n then (none, []) else (st.map (·.drop n.toNat), (st.getD []).take n.toNat)

/-- A number not above most, read. -/
def cntOf (most : Int) (st : Option (List UInt8)) : Option (List UInt8) × Nat :=
  if most < 0 ∨ most < (numOf st).2 then (none, 0) else numOf st

/-- A text of no more than most bytes, read. -/
def txtOf (most : Int) (st : Option (List UInt8)) : Option (List UInt8) × List UInt8 := passed (cntOf most st).2 (cntOf most st).1

end Go.Proofs.YthgaljgelngmaaaDoor
end

section
namespace Go.Proofs.YthgaljgelngmaaaDoor
set_option linter.unusedVariables false

/-- One part of a term: its own fields, and its kids. -/
structure Nd (α : Type) where
  kind : Int
  n : Nat
  data : List UInt8
  kids : List α

/-- A term at most f deep. -/
def Tm : Nat → Type
  | 0 => Empty
  | f + 1 => Nd (Tm f)

def kidsN (k : Int) : Int := if k = 1 ∨ k = 2 ∨ k = 3 then 0 else if k = 6 then 1 else if k = 4 ∨ k = 5 then 2 else -1
def numK (k : Int) : Bool := decide (k = 1 ∨ k = 2 ∨ k = 5)

/-- The same term, said to be one deeper. -/
def lift : (f : Nat) → Tm f → Tm (f + 1)
  | 0, t => nomatch t
  | f + 1, (t : Nd (Tm f)) => (⟨t.kind, t.n, t.data, t.kids.map (lift f)⟩ : Nd (Tm (f + 1)))

/-- Whether two lists hold the same, place by place. -/
def sameL {α : Type} (g : α → α → Bool) : List α → List α → Bool
  | [], [] => true
  | a :: l, b :: m => g a b && sameL g l m
  | _, _ => false

def sameT : (f : Nat) → Tm f → Tm f → Bool
  | 0, t, _ => nomatch t
  | f + 1, (a : Nd (Tm f)), (b : Nd (Tm f)) => decide (a.kind = b.kind) && decide (a.n = b.n) && decide (a.data = b.data) && sameL (sameT f) a.kids b.kids

theorem sameL_iff {α : Type} {g : α → α → Bool} (h : ∀ a b, g a b = true ↔ a = b) : ∀ (l m : List α), sameL g l m = true ↔ l = m
  | [], [] => by simp [sameL]
  | [], b :: m => by simp [sameL]
  | a :: l, [] => by simp [sameL]
  | a :: l, b :: m => by rw [sameL, Bool.and_eq_true, h, sameL_iff h l m, List.cons.injEq]

theorem sameT_iff : ∀ (f : Nat) (a b : Tm f), sameT f a b = true ↔ a = b
  | 0, a, _ => nomatch a
  | f + 1, ⟨k, n, d, ks⟩, ⟨k', n', d', ks'⟩ => by
    show (decide (k = k') && decide (n = n') && decide (d = d') && sameL (sameT f) ks ks') = true ↔ _
    rw [Bool.and_eq_true, Bool.and_eq_true, Bool.and_eq_true, sameL_iff (sameT_iff f), decide_eq_true_iff, decide_eq_true_iff, decide_eq_true_iff]
    constructor
    · rintro ⟨⟨⟨rfl, rfl⟩, rfl⟩, rfl⟩; rfl
    · intro h; injection h with h1 h2 h3 h4; exact ⟨⟨⟨h1, h2⟩, h3⟩, h4⟩

/-- The kind of the kid at place i; 0, where there is none. -/
def kindAt : (f : Nat) → List (Tm f) → Nat → Int
  | 0, _, _ => 0
  | f + 1, (l : List (Nd (Tm f))), i => ((l[i]?).map (·.kind)).getD 0

/-- What a term's own fields must be, its kids' number among them, at so many places of depth. -/
def ownOk {α : Type} (t : Nd α) : Bool := decide (0 ≤ kidsN t.kind) && decide ((t.kids.length : Int) = kidsN t.kind) && (numK t.kind || decide (t.n = 0)) && (decide (t.kind = 3) || decide (t.data.length = 0)) && decide (t.data.length ≤ 100)

/-- Which terms may be, at most so deep. -/
def mayT : (f : Nat) → Tm f → Int → Bool
  | 0, t, _ => nomatch t
  | f + 1, (t : Nd (Tm f)), deep => decide (1 ≤ deep) && ownOk t && (t.kids.all fun u => mayT f u (deep - 1)) && (decide (t.kind ≠ 5) || decide (kindAt f t.kids 1 = 2))

/-- What stands ahead of the kids' bytes. -/
def headB {α : Type} (t : Nd α) : List UInt8 := UInt8.ofNat (t.kind % 256).toNat :: ((if numK t.kind = true then numb t.n else []) ++ (if t.kind = 3 then texb t.data else []))

/-- A term's bytes. -/
def bytesT : (f : Nat) → Tm f → List UInt8
  | 0, t => nomatch t
  | f + 1, (t : Nd (Tm f)) => headB t ++ (t.kids.map (bytesT f)).flatten

/-- A term and its parts, in order; each said to be f deep. -/
def partsT : (f : Nat) → Tm f → List (Tm f)
  | 0, t => nomatch t
  | f + 1, (t : Nd (Tm f)) => (t : Nd (Tm f)) :: (t.kids.flatMap fun u => (partsT f u).map (lift f))

def zeroN {α : Type} : Nd α := ⟨0, 0, [], []⟩

/-- How kids are read, one after the other. -/
def readL {α : Type} (g : Option (List UInt8) → Option (List UInt8) × α) : Nat → Option (List UInt8) → Option (List UInt8) × List α
  | 0, st => (st, [])
  | n + 1, none => (none, [])
  | n + 1, some l => ((readL g n (g (some l)).1).1, (g (some l)).2 :: (readL g n (g (some l)).1).2)

/-- What a kind's number and text are read as. -/
def readN (k : Int) (st : Option (List UInt8)) : Option (List UInt8) × Nat := if numK k = true then numOf st else (st, 0)
def readD (k : Int) (st : Option (List UInt8)) : Option (List UInt8) × List UInt8 := if k = 3 then txtOf 100 st else (st, [])

/-- The next term, at most so deep: what is left (none: it failed), and the term. -/
def readT : (deep : Nat) → Option (List UInt8) → Option (List UInt8) × Nd (Tm deep)
  | 0, st => (none, zeroN)
  | d + 1, none => (none, zeroN)
  | d + 1, some [] => (none, zeroN)
  | d + 1, some (b :: l) =>
    if kidsN (b.toNat : Int) < 0 then (none, zeroN)
    else
      let k : Int := b.toNat
      let r1 := readN k (some l)
      let r2 := readD k r1.1
      let r3 := readL (readT d) (kidsN k).toNat r2.1
      (r3.1, ⟨k, r1.2, r2.2, r3.2⟩)
end Go.Proofs.YthgaljgelngmaaaDoor
end

section
namespace Go.Proofs.YthgaljgelngmaaaDoor
open Go.RowKit Go.ChangeShapes Go.WideShapes Go.Joins

theorem cells_byte : Tryd.prog.cellsOf 5 = 1 := by kernel_rfl

def byteOf (z : Int) : UInt8 := UInt8.ofNat z.toNat
theorem byteOf_nat {z : Int} (h : (Lit.int .u8 z).wf = true) : ((byteOf z).toNat : Int) = z := by
  have hx : 0 ≤ z ∧ z ≤ 255 := by simpa [Lit.wf, IntKind.min, IntKind.max, IntKind.signed, IntKind.bits] using h
  unfold byteOf
  have : (UInt8.ofNat z.toNat).toNat = z.toNat % 256 := by simp
  rw [this]
  omega

theorem BS_of_trod {H : Type} {enc : TypeId × Value → H} {W : World} {fuel : Nat} {v : Value} {x : DataW H × List MemPlace}
    (h : DataW.trod enc Tryd.prog W 0 (fun _ => true) true fuel 33 [v] = some x) : ∃ l, BS W (fun _ => True) v l := by
  rcases open_ints Tryd.underlying33 Tryd.underlying5 cells_byte h with ⟨hcs, _⟩ | ⟨a, len, cap, zs, hcs, _, hl, hm, hz, _, hcell, hwz⟩
  · simp at hcs
    subst hcs
    exact ⟨[], BS.nil _ _⟩
  · simp at hcs
    subst hcs
    simp only [if_true] at hz
    have hlen : ((zs.take len).map byteOf).length = len := by simp; omega
    refine ⟨(zs.take len).map byteOf, some a, cap, by rw [hlen], by omega, hm, (fun h => by cases h), fun h0 => ?_⟩
    rw [hlen] at h0
    obtain ⟨b, o, rfl, hc⟩ := ints_at hcell (by omega)
    refine ⟨b, o, rfl, trivial, World.block_lt_of_cell? _ _ (hc 0 (by omega)), fun j u hu => ?_⟩
    have hj : j < len := by
      have := (List.getElem?_eq_some_iff.1 hu).1
      omega
    rw [hc j (by omega)]
    have hjz : j < zs.length := by omega
    simp [hj, List.getElem?_eq_getElem hjz] at hu
    subst hu
    unfold bv
    rw [byteOf_nat (hwz _ (List.getElem_mem hjz))]
    simp [List.getD, List.getElem?_eq_getElem hjz]

theorem BS_of_arg {H : Type} {enc : TypeId × Value → H} {W : World} {base : Nat} {v : Value} {d : DataW H} {p : List MemPlace}
    (ok : Value.okWide Tryd.prog W .any base 33 v) (h : DataW.Trod enc Tryd.prog W 0 (fun _ => true) true 33 v d p) : ∃ l, BS W (fun _ => True) v l := by
  obtain ⟨a0, len, cap, rfl⟩ := okWide_slice Tryd.underlying33 ok
  obtain ⟨fuel, hf⟩ := h
  exact BS_of_trod (x := _) hf

theorem cells_bytes : Tryd.prog.cellsOf 33 = 1 := by kernel_rfl

end Go.Proofs.YthgaljgelngmaaaDoor
end
