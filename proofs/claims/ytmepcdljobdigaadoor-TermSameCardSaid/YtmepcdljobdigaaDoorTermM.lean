/-
  Terms, plain mathematics: a tree of parts at most f deep; which may be, its bytes, how it is read, its parts. No program, no condition.
-/
import Derived.Test.YtmepcdljobdigaaDoorTlvM
namespace Go.Proofs.YtmepcdljobdigaaDoor
set_option linter.unusedVariables false

/-- One part of a term: its own fields, and its kids. -/
structure Nd (α : Type) where
  kind : Int
  n : Nat
  data : List UInt8
  kids : List α

/-- A term at most f deep. -/
def Tm : Nat → Type
  | 0 => Empty
  | f + 1 => Nd (Tm f)

def kidsN (k : Int) : Int := if k = 1 ∨ k = 2 ∨ k = 3 then 0 else if k = 6 then 1 else if k = 4 ∨ k = 5 then 2 else -1
def numK (k : Int) : Bool := decide (k = 1 ∨ k = 2 ∨ k = 5)

/-- The same term, said to be one deeper. -/
def lift : (f : Nat) → Tm f → Tm (f + 1)
  | 0, t => nomatch t
  | f + 1, (t : Nd (Tm f)) => (⟨t.kind, t.n, t.data, t.kids.map (lift f)⟩ : Nd (Tm (f + 1)))

/-- Whether two lists hold the same, place by place. -/
def sameL {α : Type} (g : α → α → Bool) : List α → List α → Bool
  | [], [] => true
  | a :: l, b :: m => g a b && sameL g l m
  | _, _ => false

def sameT : (f : Nat) → Tm f → Tm f → Bool
  | 0, t, _ => nomatch t
  | f + 1, (a : Nd (Tm f)), (b : Nd (Tm f)) => decide (a.kind = b.kind) && decide (a.n = b.n) && decide (a.data = b.data) && sameL (sameT f) a.kids b.kids

theorem sameL_iff {α : Type} {g : α → α → Bool} (h : ∀ a b, g a b = true ↔ a = b) : ∀ (l m : List α), sameL g l m = true ↔ l = m
  | [], [] => by simp [sameL]
  | [], b :: m => by simp [sameL]
  | a :: l, [] => by simp [sameL]
  | a :: l, b :: m => by rw [sameL, Bool.and_eq_true, h, sameL_iff h l m, List.cons.injEq]

theorem sameT_iff : ∀ (f : Nat) (a b : Tm f), sameT f a b = true ↔ a = b
  | 0, a, _ => nomatch a
  | f + 1, ⟨k, n, d, ks⟩, ⟨k', n', d', ks'⟩ => by
    show (decide (k = k') && decide (n = n') && decide (d = d') && sameL (sameT f) ks ks') = true ↔ _
    rw [Bool.and_eq_true, Bool.and_eq_true, Bool.and_eq_true, sameL_iff (sameT_iff f), decide_eq_true_iff, decide_eq_true_iff, decide_eq_true_iff]
    constructor
    · rintro ⟨⟨⟨rfl, rfl⟩, rfl⟩, rfl⟩; rfl
    · intro h; injection h with h1 h2 h3 h4; exact ⟨⟨⟨h1, h2⟩, h3⟩, h4⟩

/-- The kind of the kid at place i; 0, where there is none. -/
def kindAt : (f : Nat) → List (Tm f) → Nat → Int
  | 0, _, _ => 0
  | f + 1, (l : List (Nd (Tm f))), i => ((l[i]?).map (·.kind)).getD 0

/-- What a term's own fields must be, its kids' number among them, at so many places of depth. -/
def ownOk {α : Type} (t : Nd α) : Bool := decide (0 ≤ kidsN t.kind) && decide ((t.kids.length : Int) = kidsN t.kind) && (numK t.kind || decide (t.n = 0)) && (decide (t.kind = 3) || decide (t.data.length = 0)) && decide (t.data.length ≤ 100)

/-- Which terms may be, at most so deep. -/
def mayT : (f : Nat) → Tm f → Int → Bool
  | 0, t, _ => nomatch t
  | f + 1, (t : Nd (Tm f)), deep => decide (1 ≤ deep) && ownOk t && (t.kids.all fun u => mayT f u (deep - 1)) && (decide (t.kind ≠ 5) || decide (kindAt f t.kids 1 = 2))

/-- What stands ahead of the kids' bytes. -/
def headB {α : Type} (t : Nd α) : List UInt8 := UInt8.ofNat (t.kind % 256).toNat :: ((if numK t.kind = true then numb t.n else []) ++ (if t.kind = 3 then texb t.data else []))

/-- A term's bytes. -/
def bytesT : (f : Nat) → Tm f → List UInt8
  | 0, t => nomatch t
  | f + 1, (t : Nd (Tm f)) => headB t ++ (t.kids.map (bytesT f)).flatten

/-- A term and its parts, in order; each said to be f deep. -/
def partsT : (f : Nat) → Tm f → List (Tm f)
  | 0, t => nomatch t
  | f + 1, (t : Nd (Tm f)) => (t : Nd (Tm f)) :: (t.kids.flatMap fun u => (partsT f u).map (lift f))

def zeroN {α : Type} : Nd α := ⟨0, 0, [], []⟩

/-- How kids are read, one after the other. -/
def readL {α : Type} (g : Option (List UInt8) → Option (List UInt8) × α) : Nat → Option (List UInt8) → Option (List UInt8) × List α
  | 0, st => (st, [])
  | n + 1, none => (none, [])
  | n + 1, some l => ((readL g n (g (some l)).1).1, (g (some l)).2 :: (readL g n (g (some l)).1).2)

/-- What a kind's number and text are read as. -/
def readN (k : Int) (st : Option (List UInt8)) : Option (List UInt8) × Nat := if numK k = true then numOf st else (st, 0)
def readD (k : Int) (st : Option (List UInt8)) : Option (List UInt8) × List UInt8 := if k = 3 then txtOf 100 st else (st, [])

/-- The next term, at most so deep: what is left (none: it failed), and the term. -/
def readT : (deep : Nat) → Option (List UInt8) → Option (List UInt8) × Nd (Tm deep)
  | 0, st => (none, zeroN)
  | d + 1, none => (none, zeroN)
  | d + 1, some [] => (none, zeroN)
  | d + 1, some (b :: l) =>
    if kidsN (b.toNat : Int) < 0 then (none, zeroN)
    else
      let k : Int := b.toNat
      let r1 := readN k (some l)
      let r2 := readD k r1.1
      let r3 := readL (readT d) (kidsN k).toNat r2.1
      (r3.1, ⟨k, r1.2, r2.2, r3.2⟩)
end Go.Proofs.YtmepcdljobdigaaDoor
