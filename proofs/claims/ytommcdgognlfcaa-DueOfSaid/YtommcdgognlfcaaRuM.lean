/-
  Plain mathematics of layer 17 (rule): conditions and rules; which may be, how they are written, whether two lists are the same, which rule is found. No program. No condition.
-/
import Derived.Test.YtommcdgognlfcaaLxM
import Derived.Lib.Join
namespace Go.Proofs.Ytommcdgognlfcaa
set_option maxRecDepth 100000
set_option linter.unusedVariables false

/-- A condition's own fields, and its kids. -/
structure Nx (α : Type) where
  op : Int
  days : Int
  mile : List UInt8
  kids : List α

/-- A condition at most f deep. -/
def Ex : Nat → Type
  | 0 => Empty
  | f + 1 => Nx (Ex f)

/-- The same condition, said to be one deeper. -/
def liftX : (f : Nat) → Ex f → Ex (f + 1)
  | 0, x => nomatch x
  | f + 1, (x : Nx (Ex f)) => (⟨x.op, x.days, x.mile, x.kids.map (liftX f)⟩ : Nx (Ex (f + 1)))

/-- Whether two lists hold the same, place by place. -/
def sameXL {α β : Type} (g : α → β → Bool) : List α → List β → Bool
  | [], [] => true
  | a :: l, b :: m => g a b && sameXL g l m
  | _, _ => false

/-- Whether two conditions are the same, however deep each is said to be. -/
def sameX : (f g : Nat) → Ex f → Ex g → Bool
  | 0, _, x, _ => nomatch x
  | _ + 1, 0, _, y => nomatch y
  | f + 1, g + 1, (a : Nx (Ex f)), (b : Nx (Ex g)) => decide (a.op = b.op) && decide (a.days = b.days) && decide (a.mile = b.mile) && sameXL (sameX f g) a.kids b.kids

theorem sameXL_iff {α : Type} {g : α → α → Bool} (h : ∀ a b, g a b = true ↔ a = b) : ∀ (l m : List α), sameXL g l m = true ↔ l = m
  | [], [] => by simp [sameXL]
  | [], b :: m => by simp [sameXL]
  | a :: l, [] => by simp [sameXL]
  | a :: l, b :: m => by rw [sameXL, Bool.and_eq_true, h, sameXL_iff h l m, List.cons.injEq]

theorem sameX_iff : ∀ (f : Nat) (a b : Ex f), sameX f f a b = true ↔ a = b
  | 0, a, _ => nomatch a
  | f + 1, ⟨k, n, d, ks⟩, ⟨k', n', d', ks'⟩ => by
    show (decide (k = k') && decide (n = n') && decide (d = d') && sameXL (sameX f f) ks ks') = true ↔ _
    rw [Bool.and_eq_true, Bool.and_eq_true, Bool.and_eq_true, sameXL_iff (sameX_iff f), decide_eq_true_iff, decide_eq_true_iff, decide_eq_true_iff]
    constructor
    · rintro ⟨⟨⟨rfl, rfl⟩, rfl⟩, rfl⟩; rfl
    · intro h; injection h with h1 h2 h3 h4; exact ⟨⟨⟨h1, h2⟩, h3⟩, h4⟩

theorem sameXL_sym {α β : Type} {g : α → β → Bool} {g' : β → α → Bool} (h : ∀ a b, g a b = true → g' b a = true) : ∀ (l : List α) (m : List β), sameXL g l m = true → sameXL g' m l = true
  | [], [], _ => rfl
  | [], b :: m, e => by simp [sameXL] at e
  | a :: l, [], e => by simp [sameXL] at e
  | a :: l, b :: m, e => by
    rw [sameXL, Bool.and_eq_true] at e ⊢
    exact ⟨h _ _ e.1, sameXL_sym h l m e.2⟩
theorem sameX_sym : ∀ (f g : Nat) (a : Ex f) (b : Ex g), sameX f g a b = true → sameX g f b a = true
  | 0, _, a, _, _ => nomatch a
  | _ + 1, 0, _, b, _ => nomatch b
  | f + 1, g + 1, (a : Nx (Ex f)), (b : Nx (Ex g)), e => by
    change (decide (a.op = b.op) && decide (a.days = b.days) && decide (a.mile = b.mile) && sameXL (sameX f g) a.kids b.kids) = true at e
    show (decide (b.op = a.op) && decide (b.days = a.days) && decide (b.mile = a.mile) && sameXL (sameX g f) b.kids a.kids) = true
    simp only [Bool.and_eq_true, decide_eq_true_eq] at e ⊢
    exact ⟨⟨⟨e.1.1.1.symm, e.1.1.2.symm⟩, e.1.2.symm⟩, sameXL_sym (sameX_sym f g) _ _ e.2⟩
theorem sameXL_trans {α β γ : Type} {g : α → β → Bool} {g' : β → γ → Bool} {g2 : α → γ → Bool} (h : ∀ a b c, g a b = true → g' b c = true → g2 a c = true) :
    ∀ (l : List α) (m : List β) (n : List γ), sameXL g l m = true → sameXL g' m n = true → sameXL g2 l n = true
  | [], [], [], _, _ => rfl
  | [], [], _ :: _, _, e => by simp [sameXL] at e
  | [], b :: m, _, e, _ => by simp [sameXL] at e
  | a :: l, [], _, e, _ => by simp [sameXL] at e
  | a :: l, b :: m, [], _, e => by simp [sameXL] at e
  | a :: l, b :: m, c :: n, e, e' => by
    rw [sameXL, Bool.and_eq_true] at e e' ⊢
    exact ⟨h _ _ _ e.1 e'.1, sameXL_trans h l m n e.2 e'.2⟩
theorem sameX_trans : ∀ (f g k : Nat) (a : Ex f) (b : Ex g) (c : Ex k), sameX f g a b = true → sameX g k b c = true → sameX f k a c = true
  | 0, _, _, a, _, _, _, _ => nomatch a
  | _ + 1, 0, _, _, b, _, _, _ => nomatch b
  | _ + 1, _ + 1, 0, _, _, c, _, _ => nomatch c
  | f + 1, g + 1, k + 1, (a : Nx (Ex f)), (b : Nx (Ex g)), (c : Nx (Ex k)), e, e' => by
    change (decide (a.op = b.op) && decide (a.days = b.days) && decide (a.mile = b.mile) && sameXL (sameX f g) a.kids b.kids) = true at e
    change (decide (b.op = c.op) && decide (b.days = c.days) && decide (b.mile = c.mile) && sameXL (sameX g k) b.kids c.kids) = true at e'
    show (decide (a.op = c.op) && decide (a.days = c.days) && decide (a.mile = c.mile) && sameXL (sameX f k) a.kids c.kids) = true
    simp only [Bool.and_eq_true, decide_eq_true_eq] at e e' ⊢
    exact ⟨⟨⟨e.1.1.1.trans e'.1.1.1, e.1.1.2.trans e'.1.1.2⟩, e.1.2.trans e'.1.2⟩, sameXL_trans (sameX_trans f g k) _ _ _ e.2 e'.2⟩
theorem sameXL_map {α β : Type} {g : β → α → Bool} (k : α → β) (h : ∀ a, g (k a) a = true) : ∀ l : List α, sameXL g (l.map k) l = true
  | [] => rfl
  | a :: l => by rw [List.map_cons, sameXL, h, sameXL_map k h l]; rfl
theorem sameX_lift : ∀ (f : Nat) (x : Ex f), sameX (f + 1) f (liftX f x) x = true
  | 0, x => nomatch x
  | f + 1, (x : Nx (Ex f)) => by
    show (decide (x.op = x.op) && decide (x.days = x.days) && decide (x.mile = x.mile) && sameXL (sameX (f + 1) f) (x.kids.map (liftX f)) x.kids) = true
    rw [sameXL_map (liftX f) (sameX_lift f)]
    simp

/-- The words that mean something else. -/
def keptL : List (List UInt8) := [[99, 108, 97, 115, 115], [100, 101, 102, 97, 117, 108, 116], [107, 101, 101, 112], [97, 102, 116, 101, 114], [111, 114], [97, 110, 100], [116, 104, 101, 110], [100, 101, 115, 116, 114, 111, 121], [114, 101, 118, 105, 101, 119]]
/-- Whether a text may be a milestone's name. -/
def wordS (l : List UInt8) : Bool := decide (1 ≤ l.length) && decide (l.length ≤ 16) && !(decide (l ∈ keptL)) && (match l with | [] => false | c :: _ => lowC c.toNat) && l.all fun b => wordC b.toNat

/-- What a condition's own fields must be, its kids' number among them. -/
def fitsX {α : Type} (x : Nx α) : Bool :=
  if x.op = 1 then decide (0 ≤ x.days) && decide (x.days ≤ 1048576) && wordS x.mile && decide (x.kids.length = 0)
  else if x.op = 2 ∨ x.op = 3 then decide (x.days = 0) && decide (x.mile = []) && decide (2 ≤ x.kids.length) else false
/-- All parts fit, at most so deep. -/
def okX : (f : Nat) → Ex f → Int → Bool
  | 0, x, _ => nomatch x
  | f + 1, (x : Nx (Ex f)), d => decide (1 ≤ d) && fitsX x && x.kids.all fun u => okX f u (d - 1)
/-- How many parts. -/
def nodesX : (f : Nat) → Ex f → Nat
  | 0, x => nomatch x
  | f + 1, (x : Nx (Ex f)) => 1 + (x.kids.map (nodesX f)).sum
/-- Which conditions may be. -/
def mayX (f : Nat) (x : Ex f) : Bool := okX f x 8 && decide (nodesX f x ≤ 24)

def opX : (f : Nat) → Ex f → Int
  | 0, x => nomatch x
  | _ + 1, x => x.op
/-- " after ", " or ", " and " -/
def sepX (p : Int) : List UInt8 := if p = 3 then [32, 97, 110, 100, 32] else [32, 111, 114, 32]
def afterW : List UInt8 := [32, 97, 102, 116, 101, 114, 32]
/-- A kid's text, in brackets where it must be. -/
def brX (p k : Int) (t : List UInt8) : List UInt8 := if k = 2 ∨ (k = 3 ∧ p = 3) then 40 :: (t ++ [41]) else t
/-- A condition's text. -/
def exprX : (f : Nat) → Ex f → List UInt8
  | 0, x => nomatch x
  | f + 1, (x : Nx (Ex f)) => if x.op = 1 then textD x.days ++ afterW ++ x.mile else Lib.join (x.kids.map fun u => brX x.op (opX f u) (exprX f u)) (sepX x.op)

/-- A rule: its class, its condition, what is done. -/
structure Rl (f : Nat) where
  cls : List UInt8
  when_ : Ex f
  act : Int
/-- Whether a rule by itself may be. -/
def goodR (f : Nat) (r : Rl f) : Bool := decide (1 ≤ r.act ∧ r.act ≤ 3) && (decide (r.cls = []) || nameS r.cls) && mayX f r.when_
/-- Which rules may be: the first error that holds. -/
def checkR (f : Nat) (l : List (Rl f)) : Int := if 12 < l.length then 4 else if l.all (goodR f) = false then 1 else if (l.map (·.cls)).Nodup then 0 else 6

def actS (n : Int) : List UInt8 := if n = 1 then [100, 101, 115, 116, 114, 111, 121] else if n = 2 then [114, 101, 118, 105, 101, 119] else [107, 101, 101, 112]
/-- Of what class: default, or class and the class in quotes. -/
def ofS (c : List UInt8) : List UInt8 := if c = [] then [100, 101, 102, 97, 117, 108, 116] else [99, 108, 97, 115, 115, 32, 34] ++ c ++ [34]
def keepW : List UInt8 := [32, 107, 101, 101, 112, 32]
def thenW : List UInt8 := [32, 116, 104, 101, 110, 32]
/-- A rule's line. -/
def lineR (f : Nat) (r : Rl f) : List UInt8 := ofS r.cls ++ keepW ++ exprX f r.when_ ++ thenW ++ actS r.act ++ [59, 10]
/-- Rules as a text, or the error. -/
def printR (f : Nat) (l : List (Rl f)) : List UInt8 × Int := if checkR f l = 0 then (if 600 < (l.flatMap (lineR f)).length then ([], 3) else (l.flatMap (lineR f), 0)) else ([], checkR f l)

/-- Whether two rules, and two lists of them, are the same. -/
def sameR (f g : Nat) (a : Rl f) (b : Rl g) : Bool := decide (a.cls = b.cls) && decide (a.act = b.act) && sameX f g a.when_ b.when_
theorem sameR_iff (f : Nat) (a b : Rl f) : sameR f f a b = true ↔ a = b := by
  obtain ⟨c, x, n⟩ := a
  obtain ⟨c', x', n'⟩ := b
  unfold sameR
  rw [Bool.and_eq_true, Bool.and_eq_true, sameX_iff, decide_eq_true_iff, decide_eq_true_iff, Rl.mk.injEq]
  constructor
  · rintro ⟨⟨h1, h2⟩, h3⟩; exact ⟨h1, h3, h2⟩
  · rintro ⟨h1, h2, h3⟩; exact ⟨⟨h1, h3⟩, h2⟩
theorem sameR_list (f : Nat) (a b : List (Rl f)) : sameXL (sameR f f) a b = true ↔ a = b := sameXL_iff (sameR_iff f) a b
theorem sameR_trans (f g k : Nat) (a : Rl f) (b : Rl g) (c : Rl k) (h1 : sameR f g a b = true) (h2 : sameR g k b c = true) : sameR f k a c = true := by
  unfold sameR at *
  simp only [Bool.and_eq_true, decide_eq_true_eq] at *
  exact ⟨⟨h1.1.1.trans h2.1.1, h1.1.2.trans h2.1.2⟩, sameX_trans f g k _ _ _ h1.2 h2.2⟩
theorem sameR_sym (f g : Nat) (a : Rl f) (b : Rl g) (h : sameR f g a b = true) : sameR g f b a = true := by
  unfold sameR at *
  simp only [Bool.and_eq_true, decide_eq_true_eq] at *
  exact ⟨⟨h.1.1.symm, h.1.2.symm⟩, sameX_sym f g _ _ h.2⟩

/-- The first rule of a class; else the first of the empty class. -/
def findR (f : Nat) (l : List (Rl f)) (c : List UInt8) : Option (Rl f) :=
  match l.find? (fun r => decide (r.cls = c)) with
  | some r => some r
  | none => l.find? (fun r => decide (r.cls = []))

/-- Not too many kids anywhere, nor too long a text. -/
def fewX : (f : Nat) → Ex f → Prop
  | 0, x => nomatch x
  | f + 1, (x : Nx (Ex f)) => x.kids.length ≤ 1000000 ∧ x.mile.length ≤ 1000000 ∧ ∀ u ∈ x.kids, fewX f u
end Go.Proofs.Ytommcdgognlfcaa
