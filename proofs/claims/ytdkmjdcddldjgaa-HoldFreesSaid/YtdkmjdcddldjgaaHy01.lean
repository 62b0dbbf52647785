/-
  ScM: Plain mathematics of layer 20 (scope): scopes as trees at most f deep; which may be, which records they match, their bytes, how they are read; there and back (P20.4), and not of and, or (P20.5). No program. No condition.
  HdM: Plain mathematics of layer 22 (hold): holds, with one placed, released, amended; which of them hold a record; placing frees none, releasing holds none (P22.3). No program. No condition.
  Kp: Own words for memory, over any program: nothing but memory has turned, and no block of which a property holds; whole numbers of 64 bits; slices of cells. No condition; nothing of the dump is used here.
  Args: Arguments opened: a []byte that came in reads as bytes. No condition.
-/
import Derived.Test.YtdkmjdcddldjgaaHy00
import Derived.Test.YtdkmjdcddldjgaaProg
import Derived.ProofKit
import Derived.OpenShut
import Derived.Lib.SmallJoins
import Derived.Deep.Slices
set_option linter.unusedVariables false
set_option maxRecDepth 100000
namespace Go.Proofs.Ytdkmjdcddldjgaa
section
structure Ns (α : Type) where
  op : Int
  name : List UInt8
  from_ : Int
  to_ : Int
  kids : List α
def Sc : Nat → Type
  | 0 => Empty
  | f + 1 => Ns (Sc f)
def liftS : (f : Nat) → Sc f → Sc (f + 1)
  | 0, x => nomatch x
  | f + 1, (x : Ns (Sc f)) => (⟨x.op, x.name, x.from_, x.to_, x.kids.map (liftS f)⟩ : Ns (Sc (f + 1)))
def sameSL {α β : Type} (g : α → β → Bool) : List α → List β → Bool
  | [], [] => true
  | a :: l, b :: m => g a b && sameSL g l m
  | _, _ => false
def sameS : (f g : Nat) → Sc f → Sc g → Bool
  | 0, _, x, _ => nomatch x
  | _ + 1, 0, _, y => nomatch y
  | f + 1, g + 1, (a : Ns (Sc f)), (b : Ns (Sc g)) => decide (a.op = b.op) && decide (a.name = b.name) && decide (a.from_ = b.from_) && decide (a.to_ = b.to_) && sameSL (sameS f g) a.kids b.kids
theorem sameSL_iff {α : Type} {g : α → α → Bool} (h : ∀ a b, g a b = true ↔ a = b) : ∀ (l m : List α), sameSL g l m = true ↔ l = m
  | [], [] => by simp [sameSL]
  | [], b :: m => by simp [sameSL]
  | a :: l, [] => by simp [sameSL]
  | a :: l, b :: m => by rw [sameSL, Bool.and_eq_true, h, sameSL_iff h l m, List.cons.injEq]
theorem sameS_iff : ∀ (f : Nat) (a b : Sc f), sameS f f a b = true ↔ a = b
  | 0, a, _ => nomatch a
  | f + 1, ⟨k, n, d, e, ks⟩, ⟨k', n', d', e', ks'⟩ => by
    show (decide (k = k') && decide (n = n') && decide (d = d') && decide (e = e') && sameSL (sameS f f) ks ks') = true ↔ _
    rw [Bool.and_eq_true, Bool.and_eq_true, Bool.and_eq_true, Bool.and_eq_true, sameSL_iff (sameS_iff f), decide_eq_true_iff, decide_eq_true_iff, decide_eq_true_iff, decide_eq_true_iff]
    constructor
    · rintro ⟨⟨⟨⟨rfl, rfl⟩, rfl⟩, rfl⟩, rfl⟩; rfl
    · intro h; injection h with h1 h2 h3 h4 h5; exact ⟨⟨⟨⟨h1, h2⟩, h3⟩, h4⟩, h5⟩
theorem sameSL_sym {α β : Type} {g : α → β → Bool} {g' : β → α → Bool} (h : ∀ a b, g a b = true → g' b a = true) : ∀ (l : List α) (m : List β), sameSL g l m = true → sameSL g' m l = true
  | [], [], _ => rfl
  | [], b :: m, e => by simp [sameSL] at e
  | a :: l, [], e => by simp [sameSL] at e
  | a :: l, b :: m, e => by
    rw [sameSL, Bool.and_eq_true] at e ⊢
    exact ⟨h _ _ e.1, sameSL_sym h l m e.2⟩
theorem sameS_parts {f g : Nat} {a : Ns (Sc f)} {b : Ns (Sc g)} : sameS (f + 1) (g + 1) a b = true ↔ a.op = b.op ∧ a.name = b.name ∧ a.from_ = b.from_ ∧ a.to_ = b.to_ ∧ sameSL (sameS f g) a.kids b.kids = true := by
  show (decide (a.op = b.op) && decide (a.name = b.name) && decide (a.from_ = b.from_) && decide (a.to_ = b.to_) && sameSL (sameS f g) a.kids b.kids) = true ↔ _
  simp only [Bool.and_eq_true, decide_eq_true_eq, and_assoc]
theorem sameS_sym : ∀ (f g : Nat) (a : Sc f) (b : Sc g), sameS f g a b = true → sameS g f b a = true
  | 0, _, a, _, _ => nomatch a
  | _ + 1, 0, _, b, _ => nomatch b
  | f + 1, g + 1, (a : Ns (Sc f)), (b : Ns (Sc g)), e => by
    obtain ⟨h1, h2, h3, h4, h5⟩ := sameS_parts.1 e
    exact sameS_parts.2 ⟨h1.symm, h2.symm, h3.symm, h4.symm, sameSL_sym (sameS_sym f g) _ _ h5⟩
theorem sameSL_trans {α β γ : Type} {g : α → β → Bool} {g' : β → γ → Bool} {g2 : α → γ → Bool} (h : ∀ a b c, g a b = true → g' b c = true → g2 a c = true) :
    ∀ (l : List α) (m : List β) (n : List γ), sameSL g l m = true → sameSL g' m n = true → sameSL g2 l n = true
  | [], [], [], _, _ => rfl
  | [], [], _ :: _, _, e => by simp [sameSL] at e
  | [], b :: m, _, e, _ => by simp [sameSL] at e
  | a :: l, [], _, e, _ => by simp [sameSL] at e
  | a :: l, b :: m, [], _, e => by simp [sameSL] at e
  | a :: l, b :: m, c :: n, e, e' => by
    rw [sameSL, Bool.and_eq_true] at e e' ⊢
    exact ⟨h _ _ _ e.1 e'.1, sameSL_trans h l m n e.2 e'.2⟩
theorem sameS_trans : ∀ (f g k : Nat) (a : Sc f) (b : Sc g) (c : Sc k), sameS f g a b = true → sameS g k b c = true → sameS f k a c = true
  | 0, _, _, a, _, _, _, _ => nomatch a
  | _ + 1, 0, _, _, b, _, _, _ => nomatch b
  | _ + 1, _ + 1, 0, _, _, c, _, _ => nomatch c
  | f + 1, g + 1, k + 1, (a : Ns (Sc f)), (b : Ns (Sc g)), (c : Ns (Sc k)), e, e' => by
    obtain ⟨h1, h2, h3, h4, h5⟩ := sameS_parts.1 e
    obtain ⟨g1, g2, g3, g4, g5⟩ := sameS_parts.1 e'
    exact sameS_parts.2 ⟨h1.trans g1, h2.trans g2, h3.trans g3, h4.trans g4, sameSL_trans (sameS_trans f g k) _ _ _ h5 g5⟩
theorem sameSL_map {α β : Type} {g : β → α → Bool} (k : α → β) (h : ∀ a, g (k a) a = true) : ∀ l : List α, sameSL g (l.map k) l = true
  | [] => rfl
  | a :: l => by rw [List.map_cons, sameSL, h, sameSL_map k h l]; rfl
theorem sameS_lift : ∀ (f : Nat) (x : Sc f), sameS (f + 1) f (liftS f x) x = true
  | 0, x => nomatch x
  | f + 1, (x : Ns (Sc f)) => sameS_parts.2 ⟨rfl, rfl, rfl, rfl, sameSL_map (liftS f) (sameS_lift f) _⟩
theorem sameSL_len {α β : Type} {g : α → β → Bool} : ∀ (l : List α) (m : List β), sameSL g l m = true → l.length = m.length
  | [], [], _ => rfl
  | [], b :: m, e => by simp [sameSL] at e
  | a :: l, [], e => by simp [sameSL] at e
  | a :: l, b :: m, e => by
    rw [sameSL, Bool.and_eq_true] at e
    rw [List.length_cons, List.length_cons, sameSL_len l m e.2]
def namedS (k : Int) : Bool := decide (k = 2 ∨ k = 3 ∨ k = 4)
def manyS (k : Int) : Bool := decide (k = 6 ∨ k = 7)
def kidsOk (k : Int) (n : Nat) : Bool := if manyS k = true then decide (2 ≤ n) else if k = 8 then decide (n = 1) else decide (n = 0)
def fitsS {α : Type} (x : Ns α) : Bool :=
  decide (1 ≤ x.op ∧ x.op ≤ 8) && (if namedS x.op = true then nameS x.name else decide (x.name = [])) && (if x.op = 5 then decide (0 ≤ x.from_ ∧ x.from_ ≤ x.to_ ∧ x.to_ ≤ 1099511627776) else decide (x.from_ = 0 ∧ x.to_ = 0)) && kidsOk x.op x.kids.length
theorem fits_iff {α : Type} (x : Ns α) : fitsS x = true ↔ (1 ≤ x.op ∧ x.op ≤ 8) ∧ (if namedS x.op = true then nameS x.name else decide (x.name = [])) = true ∧ (if x.op = 5 then decide (0 ≤ x.from_ ∧ x.from_ ≤ x.to_ ∧ x.to_ ≤ 1099511627776) else decide (x.from_ = 0 ∧ x.to_ = 0)) = true ∧ kidsOk x.op x.kids.length = true := by
  unfold fitsS
  simp only [Bool.and_eq_true, decide_eq_true_eq, and_assoc]
def okS : (f : Nat) → Sc f → Int → Bool
  | 0, x, _ => nomatch x
  | f + 1, (x : Ns (Sc f)), d => decide (1 ≤ d) && fitsS x && x.kids.all fun u => okS f u (d - 1)
def nodesS : (f : Nat) → Sc f → Nat
  | 0, x => nomatch x
  | f + 1, (x : Ns (Sc f)) => 1 + (x.kids.map (nodesS f)).sum
def mayS (f : Nat) (x : Sc f) : Bool := okS f x 8 && decide (nodesS f x ≤ 24)
theorem okS_eq (f : Nat) (x : Ns (Sc f)) (d : Int) : okS (f + 1) x d = (decide (1 ≤ d) && fitsS x && x.kids.all fun u => okS f u (d - 1)) := rfl
theorem nodesS_eq (f : Nat) (x : Ns (Sc f)) : nodesS (f + 1) x = 1 + (x.kids.map (nodesS f)).sum := rfl
theorem nodesS_pos : ∀ (f : Nat) (x : Sc f), 1 ≤ nodesS f x
  | 0, x => nomatch x
  | f + 1, (x : Ns (Sc f)) => by rw [nodesS_eq]; omega
theorem nodesS_kid (f : Nat) : ∀ (ks : List (Sc f)) (k : Sc f), k ∈ ks → nodesS f k ≤ (ks.map (nodesS f)).sum
  | [], _, h => by cases h
  | a :: l, k, h => by
    rw [List.map_cons, List.sum_cons]
    cases h with
    | head => omega
    | tail _ h => have := nodesS_kid f l k h; omega
theorem nodesS_len (f : Nat) : ∀ (ks : List (Sc f)), ks.length ≤ (ks.map (nodesS f)).sum
  | [] => by simp
  | a :: l => by
    rw [List.map_cons, List.sum_cons, List.length_cons]
    have := nodesS_len f l
    have := nodesS_pos f a
    omega
theorem sameSL_all {α β : Type} {g : α → β → Bool} {p : α → Bool} {q : β → Bool} (h : ∀ a b, g a b = true → p a = q b) : ∀ (l : List α) (m : List β), sameSL g l m = true → l.all p = m.all q
  | [], [], _ => rfl
  | [], b :: m, e => by simp [sameSL] at e
  | a :: l, [], e => by simp [sameSL] at e
  | a :: l, b :: m, e => by
    rw [sameSL, Bool.and_eq_true] at e
    rw [List.all_cons, List.all_cons, h a b e.1, sameSL_all h l m e.2]
theorem sameSL_any {α β : Type} {g : α → β → Bool} {p : α → Bool} {q : β → Bool} (h : ∀ a b, g a b = true → p a = q b) : ∀ (l : List α) (m : List β), sameSL g l m = true → l.any p = m.any q
  | [], [], _ => rfl
  | [], b :: m, e => by simp [sameSL] at e
  | a :: l, [], e => by simp [sameSL] at e
  | a :: l, b :: m, e => by
    rw [sameSL, Bool.and_eq_true] at e
    rw [List.any_cons, List.any_cons, h a b e.1, sameSL_any h l m e.2]
theorem sameSL_mapeq {α β γ : Type} {g : α → β → Bool} {p : α → γ} {q : β → γ} (h : ∀ a b, g a b = true → p a = q b) : ∀ (l : List α) (m : List β), sameSL g l m = true → l.map p = m.map q
  | [], [], _ => rfl
  | [], b :: m, e => by simp [sameSL] at e
  | a :: l, [], e => by simp [sameSL] at e
  | a :: l, b :: m, e => by
    rw [sameSL, Bool.and_eq_true] at e
    rw [List.map_cons, List.map_cons, h a b e.1, sameSL_mapeq h l m e.2]
theorem same_ok : ∀ (f g : Nat) (a : Sc f) (b : Sc g) (d : Int), sameS f g a b = true → okS f a d = okS g b d
  | 0, _, a, _, _, _ => nomatch a
  | _ + 1, 0, _, b, _, _ => nomatch b
  | f + 1, g + 1, (a : Ns (Sc f)), (b : Ns (Sc g)), d, e => by
    obtain ⟨h1, h2, h3, h4, h5⟩ := sameS_parts.1 e
    rw [okS_eq, okS_eq, sameSL_all (fun x y h => same_ok f g x y (d - 1) h) _ _ h5]
    have : fitsS a = fitsS b := by unfold fitsS; rw [h1, h2, h3, h4, sameSL_len _ _ h5]
    rw [this]
theorem same_nodes : ∀ (f g : Nat) (a : Sc f) (b : Sc g), sameS f g a b = true → nodesS f a = nodesS g b
  | 0, _, a, _, _ => nomatch a
  | _ + 1, 0, _, b, _ => nomatch b
  | f + 1, g + 1, (a : Ns (Sc f)), (b : Ns (Sc g)), e => by
    obtain ⟨_, _, _, _, h5⟩ := sameS_parts.1 e
    rw [nodesS_eq, nodesS_eq, sameSL_mapeq (fun x y h => same_nodes f g x y h) _ _ h5]
theorem zsame_may {f g : Nat} {a : Sc f} {b : Sc g} (e : sameS f g a b = true) : mayS f a = mayS g b := by
  unfold mayS; rw [same_ok f g a b 8 e, same_nodes f g a b e]
structure Rc where
  cse : List UInt8
  sub : List UInt8
  cls : List UInt8
  tick : Int
def matchS (r : Rc) : (f : Nat) → Sc f → Bool
  | 0, x => nomatch x
  | f + 1, (x : Ns (Sc f)) =>
    if x.op = 1 then true
    else if x.op = 2 then decide (r.cse = x.name)
    else if x.op = 3 then decide (r.sub = x.name)
    else if x.op = 4 then decide (r.cls = x.name)
    else if x.op = 5 then decide (x.from_ ≤ r.tick ∧ r.tick ≤ x.to_)
    else if x.op = 6 then x.kids.all (matchS r f)
    else if x.op = 7 then x.kids.any (matchS r f)
    else if x.op = 8 then !((x.kids.head?.map (matchS r f)).getD false)
    else false
theorem match_eq (r : Rc) (f : Nat) (x : Ns (Sc f)) : matchS r (f + 1) x =
    if x.op = 1 then true
    else if x.op = 2 then decide (r.cse = x.name)
    else if x.op = 3 then decide (r.sub = x.name)
    else if x.op = 4 then decide (r.cls = x.name)
    else if x.op = 5 then decide (x.from_ ≤ r.tick ∧ r.tick ≤ x.to_)
    else if x.op = 6 then x.kids.all (matchS r f)
    else if x.op = 7 then x.kids.any (matchS r f)
    else if x.op = 8 then !((x.kids.head?.map (matchS r f)).getD false)
    else false := rfl
theorem match_all (r : Rc) (f : Nat) {x : Ns (Sc f)} (h : x.op = 6) : matchS r (f + 1) x = x.kids.all (matchS r f) := by rw [match_eq, h]; rfl
theorem match_any (r : Rc) (f : Nat) {x : Ns (Sc f)} (h : x.op = 7) : matchS r (f + 1) x = x.kids.any (matchS r f) := by rw [match_eq, h]; rfl
theorem match_not (r : Rc) (f : Nat) {x : Ns (Sc f)} (h : x.op = 8) : matchS r (f + 1) x = !((x.kids.head?.map (matchS r f)).getD false) := by rw [match_eq, h]; rfl
theorem match_lift (r : Rc) : ∀ (f : Nat) (x : Sc f), matchS r (f + 1) (liftS f x) = matchS r f x
  | 0, x => nomatch x
  | f + 1, (x : Ns (Sc f)) => by
    show matchS r (f + 2) (⟨x.op, x.name, x.from_, x.to_, x.kids.map (liftS f)⟩ : Ns (Sc (f + 1))) = _
    have e : (matchS r (f + 1) ∘ liftS f) = matchS r f := funext fun k => match_lift r f k
    rw [match_eq, match_eq, List.all_map, List.any_map, List.head?_map, Option.map_map, e]
def notS {f : Nat} (x : Sc f) : Sc (f + 1) := (⟨8, [], 0, 0, [x]⟩ : Ns (Sc f))
def andsS {f : Nat} (l : List (Sc f)) : Sc (f + 1) := (⟨6, [], 0, 0, l⟩ : Ns (Sc f))
def orsS {f : Nat} (l : List (Sc f)) : Sc (f + 1) := (⟨7, [], 0, 0, l⟩ : Ns (Sc f))
theorem not_is (r : Rc) {f : Nat} (x : Sc f) : matchS r (f + 1) (notS x) = !matchS r f x := match_not r f rfl
theorem and_is (r : Rc) {f : Nat} (x y : Sc f) : matchS r (f + 1) (andsS [x, y]) = (matchS r f x && matchS r f y) := by
  rw [show matchS r (f + 1) (andsS [x, y]) = _ from match_all r f rfl]
  simp [andsS]
theorem or_is (r : Rc) {f : Nat} (x y : Sc f) : matchS r (f + 1) (orsS [x, y]) = (matchS r f x || matchS r f y) := by
  rw [show matchS r (f + 1) (orsS [x, y]) = _ from match_any r f rfl]
  simp [orsS]
theorem scope_nots (r : Rc) {f : Nat} (x y : Sc f) : matchS r (f + 2) (notS (andsS [x, y])) = matchS r (f + 2) (orsS [notS x, notS y]) ∧ matchS r (f + 2) (notS (orsS [x, y])) = matchS r (f + 2) (andsS [notS x, notS y]) ∧ matchS r (f + 2) (notS (notS x)) = matchS r f x := by
  refine ⟨?_, ?_, ?_⟩
  · rw [not_is, and_is, or_is, not_is, not_is, Bool.not_and]
  · rw [not_is, or_is, and_is, not_is, not_is, Bool.not_or]
  · rw [not_is, not_is, Bool.not_not]
def zheadS {α : Type} (x : Ns α) : List UInt8 :=
  UInt8.ofNat (x.op % 256).toNat :: ((if namedS x.op = true then texb x.name else []) ++ ((if x.op = 5 then numb x.from_.toNat ++ numb x.to_.toNat else []) ++ (if manyS x.op = true then numb x.kids.length else [])))
def bytesS : (f : Nat) → Sc f → List UInt8
  | 0, x => nomatch x
  | f + 1, (x : Ns (Sc f)) => zheadS x ++ (x.kids.map (bytesS f)).flatten
theorem bytesS_eq (f : Nat) (x : Ns (Sc f)) : bytesS (f + 1) x = zheadS x ++ (x.kids.map (bytesS f)).flatten := rfl
def putSc (f : Nat) (x : Sc f) : List UInt8 × Int := if mayS f x = true then (bytesS f x, 0) else ([], 1)
theorem same_bytes : ∀ (f g : Nat) (a : Sc f) (b : Sc g), sameS f g a b = true → bytesS f a = bytesS g b
  | 0, _, a, _, _ => nomatch a
  | _ + 1, 0, _, b, _ => nomatch b
  | f + 1, g + 1, (a : Ns (Sc f)), (b : Ns (Sc g)), e => by
    obtain ⟨h1, h2, h3, h4, h5⟩ := sameS_parts.1 e
    have : zheadS a = zheadS b := by unfold zheadS; rw [h1, h2, h3, h4, sameSL_len _ _ h5]
    rw [bytesS_eq, bytesS_eq, this, sameSL_mapeq (fun x y h => same_bytes f g x y h) _ _ h5]
def zeroNs {α : Type} : Ns α := ⟨0, [], 0, 0, []⟩
def kidsR {α : Type} (g : Option (List UInt8) → Option (List UInt8) × α) : Nat → Option (List UInt8) → Option (List UInt8) × List α
  | 0, st => (st, [])
  | n + 1, none => (none, [])
  | n + 1, some l => ((kidsR g n (g (some l)).1).1, (g (some l)).2 :: (kidsR g n (g (some l)).1).2)
def nameR (k : Int) (st : Option (List UInt8)) : Option (List UInt8) × List UInt8 := if namedS k = true then txtOf 16 st else (st, [])
def tickR (k : Int) (st : Option (List UInt8)) : Option (List UInt8) × Nat := if k = 5 then cntOf 1099511627776 st else (st, 0)
def manyR (k : Int) (st : Option (List UInt8)) : Option (List UInt8) × Nat := if manyS k = true then cntOf 24 st else if k = 8 then (st, 1) else (st, 0)
def readSc : (deep : Nat) → Option (List UInt8) → Option (List UInt8) × Ns (Sc deep)
  | 0, _ => (none, zeroNs)
  | _ + 1, none => (none, zeroNs)
  | _ + 1, some [] => (none, zeroNs)
  | d + 1, some (b :: l) =>
    let k : Int := b.toNat
    let r1 := nameR k (some l)
    let r2 := tickR k r1.1
    let r3 := tickR k r2.1
    let r4 := manyR k r3.1
    let r5 := kidsR (readSc d) r4.2 r4.1
    (r5.1, ⟨k, r1.2, (r2.2 : Int), (r3.2 : Int), r5.2⟩)
theorem rs_zero (st : Option (List UInt8)) : readSc 0 st = (none, zeroNs) := by cases st <;> rfl
theorem rs_none (d : Nat) : readSc d none = (none, zeroNs) := by cases d <;> rfl
theorem rs_nil (d : Nat) : readSc d (some []) = (none, zeroNs) := by cases d <;> rfl
theorem rs_cons (d : Nat) (b : UInt8) (l : List UInt8) : readSc (d + 1) (some (b :: l)) =
    ((kidsR (readSc d) (manyR (b.toNat : Int) (tickR (b.toNat : Int) (tickR (b.toNat : Int) (nameR (b.toNat : Int) (some l)).1).1).1).2 (manyR (b.toNat : Int) (tickR (b.toNat : Int) (tickR (b.toNat : Int) (nameR (b.toNat : Int) (some l)).1).1).1).1).1,
      ⟨(b.toNat : Int), (nameR (b.toNat : Int) (some l)).2, ((tickR (b.toNat : Int) (nameR (b.toNat : Int) (some l)).1).2 : Int), ((tickR (b.toNat : Int) (tickR (b.toNat : Int) (nameR (b.toNat : Int) (some l)).1).1).2 : Int),
        (kidsR (readSc d) (manyR (b.toNat : Int) (tickR (b.toNat : Int) (tickR (b.toNat : Int) (nameR (b.toNat : Int) (some l)).1).1).1).2 (manyR (b.toNat : Int) (tickR (b.toNat : Int) (tickR (b.toNat : Int) (nameR (b.toNat : Int) (some l)).1).1).1).1).2⟩) := rfl
def getSc (b : List UInt8) : Ns (Sc 8) × Int := if (readSc 8 (some b)).1 = some [] ∧ mayS 9 (readSc 8 (some b)).2 = true then ((readSc 8 (some b)).2, 0) else (zeroNs, 2)
end
section
structure Hl (f : Nat) where
  id : List UInt8
  sc : Sc f
  act : Bool
def findH {f : Nat} (l : List (Hl f)) (id : List UInt8) : Int := match l.findIdx? (fun h => decide (h.id = id)) with | some i => (i : Int) | none => -1
theorem findH_none {f : Nat} {l : List (Hl f)} {n : List UInt8} (h : ∀ (i : Nat) (hi : i < l.length), l[i].id ≠ n) : findH l n = -1 := by
  unfold findH
  have : l.findIdx? (fun m => decide (m.id = n)) = none := by
    rw [List.findIdx?_eq_none_iff]
    intro r hr
    obtain ⟨i, hi, rfl⟩ := List.mem_iff_getElem.1 hr
    exact decide_eq_false (h i hi)
  rw [this]
theorem findH_some {f : Nat} {l : List (Hl f)} {n : List UInt8} {j : Nat} (hj : j < l.length) (h1 : ∀ (i : Nat) (hi : i < l.length), i < j → l[i].id ≠ n) (h2 : l[j].id = n) : findH l n = (j : Int) := by
  unfold findH
  have : l.findIdx? (fun m => decide (m.id = n)) = some j := by
    rw [List.findIdx?_eq_some_iff_getElem]
    exact ⟨hj, decide_eq_true h2, fun i hi => by have := h1 i (by omega) hi; simpa using this⟩
  rw [this]
theorem findH_is {f : Nat} (l : List (Hl f)) (n : List UInt8) : (findH l n = -1 ∧ ∀ (i : Nat) (hi : i < l.length), l[i].id ≠ n) ∨ ∃ (j : Nat) (hj : j < l.length), findH l n = (j : Int) ∧ l[j].id = n ∧ ∀ (i : Nat) (hi : i < l.length), i < j → l[i].id ≠ n := by
  cases hq : l.findIdx? (fun m => decide (m.id = n)) with
  | none =>
    rw [List.findIdx?_eq_none_iff] at hq
    have ha : ∀ (i : Nat) (hi : i < l.length), l[i].id ≠ n := fun i hi => of_decide_eq_false (hq _ (List.getElem_mem hi))
    exact .inl ⟨findH_none ha, ha⟩
  | some j =>
    rw [List.findIdx?_eq_some_iff_getElem] at hq
    obtain ⟨hj, h1, h2⟩ := hq
    have ha : ∀ (i : Nat) (hi : i < l.length), i < j → l[i].id ≠ n := fun i hi hij => by have := h2 i hij; simpa using this
    exact .inr ⟨j, hj, findH_some hj ha (of_decide_eq_true h1), of_decide_eq_true h1, ha⟩
def placeH (f : Nat) (l : List (Hl f)) (id : List UInt8) (x : Sc f) : List (Hl f) × Int :=
  if nameS id = false ∨ mayS f x = false then ([], 1) else if 0 ≤ findH l id then ([], 6) else if 12 ≤ l.length then ([], 4) else (l ++ [⟨id, x, true⟩], 0)
def releaseH (f : Nat) (l : List (Hl f)) (id : List UInt8) : List (Hl f) × Int :=
  if nameS id = false then ([], 1) else match l[(findH l id).toNat]? with
    | none => ([], 5)
    | some h => if findH l id < 0 then ([], 5) else if h.act = false then ([], 13) else (l.set (findH l id).toNat ⟨id, h.sc, false⟩, 0)
def amendH (f : Nat) (l : List (Hl f)) (id : List UInt8) (x : Sc f) : List (Hl f) × Int :=
  if nameS id = false ∨ mayS f x = false then ([], 1) else match l[(findH l id).toNat]? with
    | none => ([], 5)
    | some h => if findH l id < 0 then ([], 5) else if h.act = false then ([], 13) else (l.set (findH l id).toNat ⟨id, x, true⟩, 0)
theorem release_none {f : Nat} {l : List (Hl f)} {id : List UInt8} (h1 : nameS id = true) (h2 : findH l id < 0) : releaseH f l id = ([], 5) := by
  unfold releaseH
  rw [if_neg (by rw [h1]; decide)]
  split
  · rfl
  · rw [if_pos h2]
theorem release_at {f : Nat} {l : List (Hl f)} {id : List UInt8} {j : Nat} (h1 : nameS id = true) (h2 : findH l id = (j : Int)) (hj : j < l.length) :
    releaseH f l id = if l[j].act = false then ([], 13) else (l.set j ⟨id, l[j].sc, false⟩, 0) := by
  unfold releaseH
  rw [if_neg (by rw [h1]; decide), h2, Int.toNat_natCast, List.getElem?_eq_getElem hj]
  dsimp only
  rw [if_neg (by omega)]
theorem amend_none {f : Nat} {l : List (Hl f)} {id : List UInt8} {x : Sc f} (h1 : nameS id = true) (hx : mayS f x = true) (h2 : findH l id < 0) : amendH f l id x = ([], 5) := by
  unfold amendH
  rw [if_neg (by rw [h1, hx]; decide)]
  split
  · rfl
  · rw [if_pos h2]
theorem amend_at {f : Nat} {l : List (Hl f)} {id : List UInt8} {x : Sc f} {j : Nat} (h1 : nameS id = true) (hx : mayS f x = true) (h2 : findH l id = (j : Int)) (hj : j < l.length) :
    amendH f l id x = if l[j].act = false then ([], 13) else (l.set j ⟨id, x, true⟩, 0) := by
  unfold amendH
  rw [if_neg (by rw [h1, hx]; decide), h2, Int.toNat_natCast, List.getElem?_eq_getElem hj]
  dsimp only
  rw [if_neg (by omega)]
def holdsH (r : Rc) {f : Nat} (h : Hl f) : Bool := h.act && matchS r f h.sc
def onH (r : Rc) {f : Nat} (l : List (Hl f)) : List (List UInt8) := (l.filter (holdsH r)).map (·.id)
def heldH (r : Rc) {f : Nat} (l : List (Hl f)) : Bool := l.any (holdsH r)
theorem held_on (r : Rc) {f : Nat} (l : List (Hl f)) : heldH r l = decide (0 < (onH r l).length) := by
  unfold heldH onH
  rw [List.length_map]
  induction l with
  | nil => rfl
  | cons h l ih =>
    rw [List.any_cons, List.filter_cons]
    cases holdsH r h with
    | true => simp
    | false => rw [Bool.false_or, ih]; simp
theorem on_step (r : Rc) {f : Nat} (l : List (Hl f)) {j : Nat} (hj : j < l.length) : onH r (l.take (j + 1)) = if holdsH r l[j] = true then onH r (l.take j) ++ [l[j].id] else onH r (l.take j) := by
  unfold onH
  rw [List.take_succ_eq_append_getElem hj, List.filter_append, List.map_append]
  by_cases h : holdsH r l[j] = true
  · rw [if_pos h, List.filter_cons, if_pos h]; rfl
  · rw [if_neg h, List.filter_cons, if_neg h]; simp
theorem place_ok {f : Nat} {l : List (Hl f)} {id : List UInt8} {x : Sc f} (h : (placeH f l id x).2 = 0) : nameS id = true ∧ mayS f x = true ∧ findH l id < 0 ∧ l.length < 12 ∧ (placeH f l id x).1 = l ++ [⟨id, x, true⟩] := by
  unfold placeH at h ⊢
  split at h
  · cases h
  · rename_i h1
    split at h
    · cases h
    · rename_i h2
      split at h
      · cases h
      · rename_i h3
        rw [if_neg h1, if_neg h2, if_neg h3]
        refine ⟨?_, ?_, by omega, by omega, rfl⟩
        · cases hn : nameS id with
          | true => rfl
          | false => exact absurd (.inl hn) h1
        · cases hn : mayS f x with
          | true => rfl
          | false => exact absurd (.inr hn) h1
theorem place_frees (r : Rc) {f : Nat} {l : List (Hl f)} {id : List UInt8} {x : Sc f} (h : (placeH f l id x).2 = 0) (hw : heldH r l = true) : heldH r (placeH f l id x).1 = true := by
  rw [(place_ok h).2.2.2.2]
  unfold heldH at hw ⊢
  rw [List.any_append, hw]; rfl
theorem release_frees (r : Rc) {f : Nat} {l : List (Hl f)} {id : List UInt8} {x : Sc f} (h : (placeH f l id x).2 = 0) : (releaseH f (placeH f l id x).1 id).2 = 0 ∧ heldH r (releaseH f (placeH f l id x).1 id).1 = heldH r l := by
  obtain ⟨h1, _, h3, _, h5⟩ := place_ok h
  rw [h5]
  have ha : ∀ (i : Nat) (hi : i < l.length), l[i].id ≠ id := by
    rcases findH_is l id with ⟨_, ha⟩ | ⟨j, _, e, _⟩
    · exact ha
    · omega
  have hf : findH (l ++ [(⟨id, x, true⟩ : Hl f)]) id = (l.length : Int) := findH_some (j := l.length) (by simp) (fun i hi hij => by rw [List.getElem_append_left hij]; exact ha i hij) (by simp)
  rw [release_at h1 hf (by simp), if_neg (by simp)]
  refine ⟨rfl, ?_⟩
  unfold heldH
  rw [List.set_append_right _ _ (Nat.le_refl _), Nat.sub_self, List.any_append]
  simp [holdsH]
def sameH (f g : Nat) (a : Hl f) (b : Hl g) : Bool := decide (a.id = b.id) && decide (a.act = b.act) && sameS f g a.sc b.sc
theorem sameH_iff (f : Nat) (a b : Hl f) : sameH f f a b = true ↔ a = b := by
  obtain ⟨i, s, c⟩ := a
  obtain ⟨i', s', c'⟩ := b
  unfold sameH
  rw [Bool.and_eq_true, Bool.and_eq_true, sameS_iff, decide_eq_true_iff, decide_eq_true_iff, Hl.mk.injEq]
  constructor
  · rintro ⟨⟨h1, h2⟩, h3⟩; exact ⟨h1, h3, h2⟩
  · rintro ⟨h1, h2, h3⟩; exact ⟨⟨h1, h3⟩, h2⟩
theorem sameHL_iff (f : Nat) (l m : List (Hl f)) : sameSL (sameH f f) l m = true ↔ l = m := sameSL_iff (sameH_iff f) l m
theorem live_hold : (placeH 1 [] [97] (⟨1, [], 0, 0, []⟩ : Ns (Sc 0))).2 = 0 ∧ (placeH 1 [] [97] (⟨1, [], 0, 0, []⟩ : Ns (Sc 0))).1 = [⟨[97], (⟨1, [], 0, 0, []⟩ : Ns (Sc 0)), true⟩] := by
  have h : nameS [97] = true := by decide
  have h2 : mayS 1 (⟨1, [], 0, 0, []⟩ : Ns (Sc 0)) = true := by decide
  unfold placeH
  rw [if_neg (by rw [h, h2]; decide)]
  exact ⟨rfl, rfl⟩
end
section
open Go.RowKit
def I64 (n : Int) : Prop := -9223372036854775808 ≤ n ∧ n ≤ 9223372036854775807
structure KeepP (P : Nat → Prop) (w w' : World) : Prop where
  os : w'.os = w.os
  tape : w'.tape = w.tape
  output : w'.output = w.output
  size : w.heap.size ≤ w'.heap.size
  block : ∀ b, P b → w'.heap[b]? = w.heap[b]?
section
variable {P Q : Nat → Prop} {a b c : World}
theorem KeepP.refl (P : Nat → Prop) (w : World) : KeepP P w w := ⟨rfl, rfl, rfl, Nat.le_refl _, fun _ _ => rfl⟩
theorem KeepP.trans (h : KeepP P a b) (k : KeepP P b c) : KeepP P a c := ⟨k.os.trans h.os, k.tape.trans h.tape, k.output.trans h.output, Nat.le_trans h.size k.size, fun i hi => (k.block i hi).trans (h.block i hi)⟩
theorem KeepP.mono (h : KeepP P a b) (hq : ∀ x, Q x → P x) : KeepP Q a b := ⟨h.os, h.tape, h.output, h.size, fun i hi => h.block i (hq i hi)⟩
theorem KeepP.of_below (h : Below a.heap.size a b) (hp : ∀ x, P x → x < a.heap.size) : KeepP P a b := ⟨h.os, h.tape, h.output, h.size, fun i hi => h.block i (hp i hi)⟩
theorem KeepP.alloc (w : World) (o : Obj) (hp : ∀ x, P x → x < w.heap.size) : KeepP P w (w.alloc o) := KeepP.of_below ((Below.refl _ _).alloc (Nat.le_refl _) o) hp
theorem KeepP.to_below {B : Nat} (h : KeepP P a b) (hp : ∀ x, x < B → P x) : Below B a b := ⟨h.os, h.tape, h.output, h.size, fun i hi => h.block i (hp i hi)⟩
theorem KB.keepP {g : Nat} {t : TypeId} {cs : Array Value} (h : KB a g t cs) (k : KeepP P a b) (hp : P g) : KB b g t cs := h.keep (k.block g hp)
end
section
variable {P Q : Nat → Prop} {a b c : World}
theorem KeepP.drewN (h : KeepP P a b) (n : Nat) : KeepP P a (b.drewN n) := ⟨h.os, h.tape, h.output, h.size, h.block⟩
theorem KeepP.set (h : KeepP P a b) (p : Addr) (hp : ¬ P p.block) (u : Value) : KeepP P a (b.setCell p u) :=
  ⟨h.os, h.tape, h.output, by simp [World.setCell]; exact h.size, fun i hi => (Below.heap_setCell b p u i fun e => hp (e ▸ hi)).trans (h.block i hi)⟩
theorem KeepP.new (h : KeepP P a b) (o : Obj) (hp : ∀ x, P x → x < a.heap.size) : KeepP P a (b.alloc o) :=
  ⟨h.os, h.tape, h.output, by have := h.size; simp; omega, fun i hi => (Below.heap_alloc b o i (by have := hp i hi; have := h.size; omega)).trans (h.block i hi)⟩
theorem KeepP.grown (h : KeepP P a b) {row : Option Nat} (hg : b.grownBy c row) (hr : ∀ g, row = some g → ¬ P g) (hp : ∀ x, P x → x < a.heap.size) : KeepP P a c :=
  ⟨hg.os.trans h.os, hg.tape.trans h.tape, hg.output.trans h.output, Nat.le_trans h.size hg.size, fun i hi => (hg.block i (by have := hp i hi; have := h.size; omega) (fun e => hr i e.symm hi)).trans (h.block i hi)⟩
theorem KeepP.below (h : KeepP P a b) {B : Nat} (hg : Below B b c) (hp : ∀ x, P x → x < B) : KeepP P a c :=
  ⟨hg.os.trans h.os, hg.tape.trans h.tape, hg.output.trans h.output, Nat.le_trans h.size hg.size, fun i hi => (hg.block i (hp i hi)).trans (h.block i hi)⟩
end
theorem own_keep {w w' : World} {B e size n : Nat} {v : Value} {xs : List Value} (h : w.ownsRow B e size v n xs) (hk : ∀ b, v.ownBlock = some b → w'.heap[b]? = w.heap[b]?) : w'.ownsRow B e size v n xs := by
  obtain ⟨h1, h2⟩ := h
  refine ⟨h1, ?_⟩
  rcases h2 with h2 | ⟨g, c, cur, rfl, hb, hg, r⟩
  · exact .inl h2
  · exact .inr ⟨g, c, cur, rfl, hb, (hk g rfl).trans hg, r⟩
def CS (w : World) (S : Nat → Prop) (v : Value) (cs : List Value) : Prop :=
  ∃ A c, v = .slice A cs.length c ∧ cs.length ≤ c ∧ c ≤ maxLen ∧
    (0 < cs.length → ∃ b o, A = some ⟨b, o, none⟩ ∧ S b ∧ b < w.heap.size ∧ ∀ j u, cs[j]? = some u → w.cell? ⟨b, o + j, none⟩ = some u)
section
variable {w w' : World} {S S' : Nat → Prop} {v : Value} {cs : List Value}
theorem CS.nil (w : World) (S : Nat → Prop) : CS w S (.slice none 0 0) [] := ⟨none, 0, rfl, by simp, by simp [maxLen], fun h => absurd h (by simp)⟩
theorem CS.keep (h : CS w S v cs) (hs : w.heap.size ≤ w'.heap.size) (hk : ∀ b, S b → b < w.heap.size → w'.heap[b]? = w.heap[b]?) : CS w' S v cs := by
  obtain ⟨A, c, e, hl, hc, hx⟩ := h
  refine ⟨A, c, e, hl, hc, fun h0 => ?_⟩
  obtain ⟨b, o, ea, sb, hb, hx⟩ := hx h0
  exact ⟨b, o, ea, sb, by omega, fun j u hu => (World.cell?_of_block (w := w) (hk b sb hb)).trans (hx j u hu)⟩
theorem CS.mono (h : CS w S v cs) (hs : ∀ b, S b → S' b) : CS w S' v cs := by
  obtain ⟨A, c, e, hl, hc, hx⟩ := h
  refine ⟨A, c, e, hl, hc, fun h0 => ?_⟩
  obtain ⟨b, o, ea, sb, r⟩ := hx h0
  exact ⟨b, o, ea, hs b sb, r⟩
theorem CS.lt (h : CS w S v cs) : CS w (fun b => S b ∧ b < w.heap.size) v cs := by
  obtain ⟨A, c, e, hl, hc, hx⟩ := h
  refine ⟨A, c, e, hl, hc, fun h0 => ?_⟩
  obtain ⟨b, o, ea, sb, hb, r⟩ := hx h0
  exact ⟨b, o, ea, ⟨sb, hb⟩, hb, r⟩
theorem CS.below' (h : CS w S v cs) (hg : Below w.heap.size w w') : CS w' S v cs := h.keep hg.size fun b _ hb => hg.block b hb
theorem CS.keepP {P : Nat → Prop} (h : CS w S v cs) (k : KeepP P w w') (hp : ∀ b, S b → b < w.heap.size → P b) : CS w' S v cs := h.keep k.size fun b sb hb => k.block b (hp b sb hb)
theorem CS.form (h : CS w S v cs) : ∃ A c, v = .slice A cs.length c ∧ cs.length ≤ c ∧ c ≤ maxLen := by
  obtain ⟨A, c, e, hl, hc, hx⟩ := h
  exact ⟨A, c, e, hl, hc⟩
theorem CS.at_ {A : Option Addr} {n c : Nat} (h : CS w S (.slice A n c) cs) (hp : 0 < cs.length) :
    ∃ b o, A = some ⟨b, o, none⟩ ∧ S b ∧ b < w.heap.size ∧ ∀ j u, cs[j]? = some u → w.cell? ⟨b, o + j, none⟩ = some u := by
  obtain ⟨A', c', e, hl, hc, hx⟩ := h
  injection e with e1 e2 e3
  subst e1
  exact hx hp
theorem CS.of_own {base e n : Nat} (h : w.ownsRow base e 1 v n cs) : CS w (fun b => base ≤ b) v cs := by
  obtain ⟨h1, h2⟩ := h
  have hn : n = cs.length := by simpa using h1.symm
  subst hn
  rcases h2 with ⟨rfl, h0⟩ | ⟨g, cap, cur, rfl, hb, hg, hnc, hcm, hcs, htk⟩
  · obtain rfl : cs = [] := List.eq_nil_of_length_eq_zero h0
    exact CS.nil w _
  · refine ⟨_, _, rfl, hnc, hcm, fun _ => ⟨g, 0, rfl, hb, (Array.getElem?_eq_some_iff.1 hg).1, fun j u hu => ?_⟩⟩
    rw [Nat.zero_add, cell_of_row w g j cur e (0, 0) hg]
    rw [← htk, List.getElem?_take] at hu
    split at hu
    · simpa using hu
    · cases hu
end
end
section
open Go.RowKit Go.ChangeShapes Go.WideShapes Go.Joins
theorem cells_byte : Try.prog.cellsOf 5 = 1 := by kernel_rfl
def byteOf (z : Int) : UInt8 := UInt8.ofNat z.toNat
theorem byteOf_nat {z : Int} (h : (Lit.int .u8 z).wf = true) : ((byteOf z).toNat : Int) = z := by
  have hx : 0 ≤ z ∧ z ≤ 255 := by simpa [Lit.wf, IntKind.min, IntKind.max, IntKind.signed, IntKind.bits] using h
  unfold byteOf
  have : (UInt8.ofNat z.toNat).toNat = z.toNat % 256 := by simp
  rw [this]
  omega
theorem BS_of_trod {H : Type} {enc : TypeId × Value → H} {W : World} {fuel : Nat} {v : Value} {x : DataW H × List MemPlace}
    (h : DataW.trod enc Try.prog W 0 (fun _ => true) true fuel 77 [v] = some x) : ∃ l, BS W (fun _ => True) v l := by
  rcases open_ints Try.underlying77 Try.underlying5 cells_byte h with ⟨hcs, _⟩ | ⟨a, len, cap, zs, hcs, _, hl, hm, hz, _, hcell, hwz⟩
  · simp at hcs
    subst hcs
    exact ⟨[], BS.nil _ _⟩
  · simp at hcs
    subst hcs
    simp only [if_true] at hz
    have hlen : ((zs.take len).map byteOf).length = len := by simp; omega
    refine ⟨(zs.take len).map byteOf, some a, cap, by rw [hlen], by omega, hm, (fun h => by cases h), fun h0 => ?_⟩
    rw [hlen] at h0
    obtain ⟨b, o, rfl, hc⟩ := ints_at hcell (by omega)
    refine ⟨b, o, rfl, trivial, World.block_lt_of_cell? _ _ (hc 0 (by omega)), fun j u hu => ?_⟩
    have hj : j < len := by
      have := (List.getElem?_eq_some_iff.1 hu).1
      omega
    rw [hc j (by omega)]
    have hjz : j < zs.length := by omega
    simp [hj, List.getElem?_eq_getElem hjz] at hu
    subst hu
    unfold bv
    rw [byteOf_nat (hwz _ (List.getElem_mem hjz))]
    simp [List.getD, List.getElem?_eq_getElem hjz]
theorem BS_of_arg {H : Type} {enc : TypeId × Value → H} {W : World} {base : Nat} {v : Value} {d : DataW H} {p : List MemPlace}
    (ok : Value.okWide Try.prog W .any base 77 v) (h : DataW.Trod enc Try.prog W 0 (fun _ => true) true 77 v d p) : ∃ l, BS W (fun _ => True) v l := by
  obtain ⟨a0, len, cap, rfl⟩ := okWide_slice Try.underlying77 ok
  obtain ⟨fuel, hf⟩ := h
  exact BS_of_trod (x := _) hf
theorem cells_bytes : Try.prog.cellsOf 77 = 1 := by kernel_rfl
end
end Go.Proofs.Ytdkmjdcddldjgaa
