/-
  ScM: Plain mathematics of layer 20 (scope): scopes as trees at most f deep; which may be, which records they match, their bytes, how they are read; there and back (P20.4), and not of and, or (P20.5). No program. No condition.
  Args: Arguments opened: a []byte that came in reads as bytes. No condition.
  Str: Own words for texts, over any program: a byte slice turned into a text; arrays of bytes compared. No condition; nothing of the dump is used here.
  Base: Small facts over the loaded program that several layers' texts use. No condition.
  Txt: Texts (strings) as values: a string of given bytes; its bytes as a slice of the call's own; whether two are the same; a string that came in. General. No condition.
-/
import Derived.Test.YtcbkokhjdleoeaaSz00
import Derived.Test.YtcbkokhjdleoeaaProg
import Derived.ProofKit
import Derived.OpenShut
import Derived.Lib.SmallJoins
import Derived.Deep.Slices
import Derived.Laws.BytesArg
import Derived.Stop.BytesEq
import Derived.Deep.MidRow
import Derived.WalkKit
import Derived.Lib.ConvBytes
set_option linter.unusedVariables false
set_option maxRecDepth 100000
namespace Go.Proofs.Ytcbkokhjdleoeaa
section
structure Ns (α : Type) where
  op : Int
  name : List UInt8
  from_ : Int
  to_ : Int
  kids : List α
def Sc : Nat → Type
  | 0 => Empty
  | f + 1 => Ns (Sc f)
def liftS : (f : Nat) → Sc f → Sc (f + 1)
  | 0, x => nomatch x
  | f + 1, (x : Ns (Sc f)) => (⟨x.op, x.name, x.from_, x.to_, x.kids.map (liftS f)⟩ : Ns (Sc (f + 1)))
def sameSL {α β : Type} (g : α → β → Bool) : List α → List β → Bool
  | [], [] => true
  | a :: l, b :: m => g a b && sameSL g l m
  | _, _ => false
def sameS : (f g : Nat) → Sc f → Sc g → Bool
  | 0, _, x, _ => nomatch x
  | _ + 1, 0, _, y => nomatch y
  | f + 1, g + 1, (a : Ns (Sc f)), (b : Ns (Sc g)) => decide (a.op = b.op) && decide (a.name = b.name) && decide (a.from_ = b.from_) && decide (a.to_ = b.to_) && sameSL (sameS f g) a.kids b.kids
theorem sameSL_iff {α : Type} {g : α → α → Bool} (h : ∀ a b, g a b = true ↔ a = b) : ∀ (l m : List α), sameSL g l m = true ↔ l = m
  | [], [] => by simp [sameSL]
  | [], b :: m => by simp [sameSL]
  | a :: l, [] => by simp [sameSL]
  | a :: l, b :: m => by rw [sameSL, Bool.and_eq_true, h, sameSL_iff h l m, List.cons.injEq]
theorem sameS_iff : ∀ (f : Nat) (a b : Sc f), sameS f f a b = true ↔ a = b
  | 0, a, _ => nomatch a
  | f + 1, ⟨k, n, d, e, ks⟩, ⟨k', n', d', e', ks'⟩ => by
    show (decide (k = k') && decide (n = n') && decide (d = d') && decide (e = e') && sameSL (sameS f f) ks ks') = true ↔ _
    rw [Bool.and_eq_true, Bool.and_eq_true, Bool.and_eq_true, Bool.and_eq_true, sameSL_iff (sameS_iff f), decide_eq_true_iff, decide_eq_true_iff, decide_eq_true_iff, decide_eq_true_iff]
    constructor
    · rintro ⟨⟨⟨⟨rfl, rfl⟩, rfl⟩, rfl⟩, rfl⟩; rfl
    · intro h; injection h with h1 h2 h3 h4 h5; exact ⟨⟨⟨⟨h1, h2⟩, h3⟩, h4⟩, h5⟩
theorem sameSL_sym {α β : Type} {g : α → β → Bool} {g' : β → α → Bool} (h : ∀ a b, g a b = true → g' b a = true) : ∀ (l : List α) (m : List β), sameSL g l m = true → sameSL g' m l = true
  | [], [], _ => rfl
  | [], b :: m, e => by simp [sameSL] at e
  | a :: l, [], e => by simp [sameSL] at e
  | a :: l, b :: m, e => by
    rw [sameSL, Bool.and_eq_true] at e ⊢
    exact ⟨h _ _ e.1, sameSL_sym h l m e.2⟩
theorem sameS_parts {f g : Nat} {a : Ns (Sc f)} {b : Ns (Sc g)} : sameS (f + 1) (g + 1) a b = true ↔ a.op = b.op ∧ a.name = b.name ∧ a.from_ = b.from_ ∧ a.to_ = b.to_ ∧ sameSL (sameS f g) a.kids b.kids = true := by
  show (decide (a.op = b.op) && decide (a.name = b.name) && decide (a.from_ = b.from_) && decide (a.to_ = b.to_) && sameSL (sameS f g) a.kids b.kids) = true ↔ _
  simp only [Bool.and_eq_true, decide_eq_true_eq, and_assoc]
theorem sameS_sym : ∀ (f g : Nat) (a : Sc f) (b : Sc g), sameS f g a b = true → sameS g f b a = true
  | 0, _, a, _, _ => nomatch a
  | _ + 1, 0, _, b, _ => nomatch b
  | f + 1, g + 1, (a : Ns (Sc f)), (b : Ns (Sc g)), e => by
    obtain ⟨h1, h2, h3, h4, h5⟩ := sameS_parts.1 e
    exact sameS_parts.2 ⟨h1.symm, h2.symm, h3.symm, h4.symm, sameSL_sym (sameS_sym f g) _ _ h5⟩
theorem sameSL_trans {α β γ : Type} {g : α → β → Bool} {g' : β → γ → Bool} {g2 : α → γ → Bool} (h : ∀ a b c, g a b = true → g' b c = true → g2 a c = true) :
    ∀ (l : List α) (m : List β) (n : List γ), sameSL g l m = true → sameSL g' m n = true → sameSL g2 l n = true
  | [], [], [], _, _ => rfl
  | [], [], _ :: _, _, e => by simp [sameSL] at e
  | [], b :: m, _, e, _ => by simp [sameSL] at e
  | a :: l, [], _, e, _ => by simp [sameSL] at e
  | a :: l, b :: m, [], _, e => by simp [sameSL] at e
  | a :: l, b :: m, c :: n, e, e' => by
    rw [sameSL, Bool.and_eq_true] at e e' ⊢
    exact ⟨h _ _ _ e.1 e'.1, sameSL_trans h l m n e.2 e'.2⟩
theorem sameS_trans : ∀ (f g k : Nat) (a : Sc f) (b : Sc g) (c : Sc k), sameS f g a b = true → sameS g k b c = true → sameS f k a c = true
  | 0, _, _, a, _, _, _, _ => nomatch a
  | _ + 1, 0, _, _, b, _, _, _ => nomatch b
  | _ + 1, _ + 1, 0, _, _, c, _, _ => nomatch c
  | f + 1, g + 1, k + 1, (a : Ns (Sc f)), (b : Ns (Sc g)), (c : Ns (Sc k)), e, e' => by
    obtain ⟨h1, h2, h3, h4, h5⟩ := sameS_parts.1 e
    obtain ⟨g1, g2, g3, g4, g5⟩ := sameS_parts.1 e'
    exact sameS_parts.2 ⟨h1.trans g1, h2.trans g2, h3.trans g3, h4.trans g4, sameSL_trans (sameS_trans f g k) _ _ _ h5 g5⟩
theorem sameSL_map {α β : Type} {g : β → α → Bool} (k : α → β) (h : ∀ a, g (k a) a = true) : ∀ l : List α, sameSL g (l.map k) l = true
  | [] => rfl
  | a :: l => by rw [List.map_cons, sameSL, h, sameSL_map k h l]; rfl
theorem sameS_lift : ∀ (f : Nat) (x : Sc f), sameS (f + 1) f (liftS f x) x = true
  | 0, x => nomatch x
  | f + 1, (x : Ns (Sc f)) => sameS_parts.2 ⟨rfl, rfl, rfl, rfl, sameSL_map (liftS f) (sameS_lift f) _⟩
theorem sameSL_len {α β : Type} {g : α → β → Bool} : ∀ (l : List α) (m : List β), sameSL g l m = true → l.length = m.length
  | [], [], _ => rfl
  | [], b :: m, e => by simp [sameSL] at e
  | a :: l, [], e => by simp [sameSL] at e
  | a :: l, b :: m, e => by
    rw [sameSL, Bool.and_eq_true] at e
    rw [List.length_cons, List.length_cons, sameSL_len l m e.2]
def namedS (k : Int) : Bool := decide (k = 2 ∨ k = 3 ∨ k = 4)
def manyS (k : Int) : Bool := decide (k = 6 ∨ k = 7)
def kidsOk (k : Int) (n : Nat) : Bool := if manyS k = true then decide (2 ≤ n) else if k = 8 then decide (n = 1) else decide (n = 0)
def fitsS {α : Type} (x : Ns α) : Bool :=
  decide (1 ≤ x.op ∧ x.op ≤ 8) && (if namedS x.op = true then nameS x.name else decide (x.name = [])) && (if x.op = 5 then decide (0 ≤ x.from_ ∧ x.from_ ≤ x.to_ ∧ x.to_ ≤ 1099511627776) else decide (x.from_ = 0 ∧ x.to_ = 0)) && kidsOk x.op x.kids.length
theorem fits_iff {α : Type} (x : Ns α) : fitsS x = true ↔ (1 ≤ x.op ∧ x.op ≤ 8) ∧ (if namedS x.op = true then nameS x.name else decide (x.name = [])) = true ∧ (if x.op = 5 then decide (0 ≤ x.from_ ∧ x.from_ ≤ x.to_ ∧ x.to_ ≤ 1099511627776) else decide (x.from_ = 0 ∧ x.to_ = 0)) = true ∧ kidsOk x.op x.kids.length = true := by
  unfold fitsS
  simp only [Bool.and_eq_true, decide_eq_true_eq, and_assoc]
def okS : (f : Nat) → Sc f → Int → Bool
  | 0, x, _ => nomatch x
  | f + 1, (x : Ns (Sc f)), d => decide (1 ≤ d) && fitsS x && x.kids.all fun u => okS f u (d - 1)
def nodesS : (f : Nat) → Sc f → Nat
  | 0, x => nomatch x
  | f + 1, (x : Ns (Sc f)) => 1 + (x.kids.map (nodesS f)).sum
def mayS (f : Nat) (x : Sc f) : Bool := okS f x 8 && decide (nodesS f x ≤ 24)
theorem okS_eq (f : Nat) (x : Ns (Sc f)) (d : Int) : okS (f + 1) x d = (decide (1 ≤ d) && fitsS x && x.kids.all fun u => okS f u (d - 1)) := rfl
theorem nodesS_eq (f : Nat) (x : Ns (Sc f)) : nodesS (f + 1) x = 1 + (x.kids.map (nodesS f)).sum := rfl
theorem nodesS_pos : ∀ (f : Nat) (x : Sc f), 1 ≤ nodesS f x
  | 0, x => nomatch x
  | f + 1, (x : Ns (Sc f)) => by rw [nodesS_eq]; omega
theorem nodesS_kid (f : Nat) : ∀ (ks : List (Sc f)) (k : Sc f), k ∈ ks → nodesS f k ≤ (ks.map (nodesS f)).sum
  | [], _, h => by cases h
  | a :: l, k, h => by
    rw [List.map_cons, List.sum_cons]
    cases h with
    | head => omega
    | tail _ h => have := nodesS_kid f l k h; omega
theorem nodesS_len (f : Nat) : ∀ (ks : List (Sc f)), ks.length ≤ (ks.map (nodesS f)).sum
  | [] => by simp
  | a :: l => by
    rw [List.map_cons, List.sum_cons, List.length_cons]
    have := nodesS_len f l
    have := nodesS_pos f a
    omega
theorem sameSL_all {α β : Type} {g : α → β → Bool} {p : α → Bool} {q : β → Bool} (h : ∀ a b, g a b = true → p a = q b) : ∀ (l : List α) (m : List β), sameSL g l m = true → l.all p = m.all q
  | [], [], _ => rfl
  | [], b :: m, e => by simp [sameSL] at e
  | a :: l, [], e => by simp [sameSL] at e
  | a :: l, b :: m, e => by
    rw [sameSL, Bool.and_eq_true] at e
    rw [List.all_cons, List.all_cons, h a b e.1, sameSL_all h l m e.2]
theorem sameSL_any {α β : Type} {g : α → β → Bool} {p : α → Bool} {q : β → Bool} (h : ∀ a b, g a b = true → p a = q b) : ∀ (l : List α) (m : List β), sameSL g l m = true → l.any p = m.any q
  | [], [], _ => rfl
  | [], b :: m, e => by simp [sameSL] at e
  | a :: l, [], e => by simp [sameSL] at e
  | a :: l, b :: m, e => by
    rw [sameSL, Bool.and_eq_true] at e
    rw [List.any_cons, List.any_cons, h a b e.1, sameSL_any h l m e.2]
theorem sameSL_mapeq {α β γ : Type} {g : α → β → Bool} {p : α → γ} {q : β → γ} (h : ∀ a b, g a b = true → p a = q b) : ∀ (l : List α) (m : List β), sameSL g l m = true → l.map p = m.map q
  | [], [], _ => rfl
  | [], b :: m, e => by simp [sameSL] at e
  | a :: l, [], e => by simp [sameSL] at e
  | a :: l, b :: m, e => by
    rw [sameSL, Bool.and_eq_true] at e
    rw [List.map_cons, List.map_cons, h a b e.1, sameSL_mapeq h l m e.2]
theorem same_ok : ∀ (f g : Nat) (a : Sc f) (b : Sc g) (d : Int), sameS f g a b = true → okS f a d = okS g b d
  | 0, _, a, _, _, _ => nomatch a
  | _ + 1, 0, _, b, _, _ => nomatch b
  | f + 1, g + 1, (a : Ns (Sc f)), (b : Ns (Sc g)), d, e => by
    obtain ⟨h1, h2, h3, h4, h5⟩ := sameS_parts.1 e
    rw [okS_eq, okS_eq, sameSL_all (fun x y h => same_ok f g x y (d - 1) h) _ _ h5]
    have : fitsS a = fitsS b := by unfold fitsS; rw [h1, h2, h3, h4, sameSL_len _ _ h5]
    rw [this]
theorem same_nodes : ∀ (f g : Nat) (a : Sc f) (b : Sc g), sameS f g a b = true → nodesS f a = nodesS g b
  | 0, _, a, _, _ => nomatch a
  | _ + 1, 0, _, b, _ => nomatch b
  | f + 1, g + 1, (a : Ns (Sc f)), (b : Ns (Sc g)), e => by
    obtain ⟨_, _, _, _, h5⟩ := sameS_parts.1 e
    rw [nodesS_eq, nodesS_eq, sameSL_mapeq (fun x y h => same_nodes f g x y h) _ _ h5]
theorem zsame_may {f g : Nat} {a : Sc f} {b : Sc g} (e : sameS f g a b = true) : mayS f a = mayS g b := by
  unfold mayS; rw [same_ok f g a b 8 e, same_nodes f g a b e]
structure Rc where
  cse : List UInt8
  sub : List UInt8
  cls : List UInt8
  tick : Int
def matchS (r : Rc) : (f : Nat) → Sc f → Bool
  | 0, x => nomatch x
  | f + 1, (x : Ns (Sc f)) =>
    if x.op = 1 then true
    else if x.op = 2 then decide (r.cse = x.name)
    else if x.op = 3 then decide (r.sub = x.name)
    else if x.op = 4 then decide (r.cls = x.name)
    else if x.op = 5 then decide (x.from_ ≤ r.tick ∧ r.tick ≤ x.to_)
    else if x.op = 6 then x.kids.all (matchS r f)
    else if x.op = 7 then x.kids.any (matchS r f)
    else if x.op = 8 then !((x.kids.head?.map (matchS r f)).getD false)
    else false
theorem match_eq (r : Rc) (f : Nat) (x : Ns (Sc f)) : matchS r (f + 1) x =
    if x.op = 1 then true
    else if x.op = 2 then decide (r.cse = x.name)
    else if x.op = 3 then decide (r.sub = x.name)
    else if x.op = 4 then decide (r.cls = x.name)
    else if x.op = 5 then decide (x.from_ ≤ r.tick ∧ r.tick ≤ x.to_)
    else if x.op = 6 then x.kids.all (matchS r f)
    else if x.op = 7 then x.kids.any (matchS r f)
    else if x.op = 8 then !((x.kids.head?.map (matchS r f)).getD false)
    else false := rfl
theorem match_all (r : Rc) (f : Nat) {x : Ns (Sc f)} (h : x.op = 6) : matchS r (f + 1) x = x.kids.all (matchS r f) := by rw [match_eq, h]; rfl
theorem match_any (r : Rc) (f : Nat) {x : Ns (Sc f)} (h : x.op = 7) : matchS r (f + 1) x = x.kids.any (matchS r f) := by rw [match_eq, h]; rfl
theorem match_not (r : Rc) (f : Nat) {x : Ns (Sc f)} (h : x.op = 8) : matchS r (f + 1) x = !((x.kids.head?.map (matchS r f)).getD false) := by rw [match_eq, h]; rfl
theorem match_lift (r : Rc) : ∀ (f : Nat) (x : Sc f), matchS r (f + 1) (liftS f x) = matchS r f x
  | 0, x => nomatch x
  | f + 1, (x : Ns (Sc f)) => by
    show matchS r (f + 2) (⟨x.op, x.name, x.from_, x.to_, x.kids.map (liftS f)⟩ : Ns (Sc (f + 1))) = _
    have e : (matchS r (f + 1) ∘ liftS f) = matchS r f := funext fun k => match_lift r f k
    rw [match_eq, match_eq, List.all_map, List.any_map, List.head?_map, Option.map_map, e]
def notS {f : Nat} (x : Sc f) : Sc (f + 1) := (⟨8, [], 0, 0, [x]⟩ : Ns (Sc f))
def andsS {f : Nat} (l : List (Sc f)) : Sc (f + 1) := (⟨6, [], 0, 0, l⟩ : Ns (Sc f))
def orsS {f : Nat} (l : List (Sc f)) : Sc (f + 1) := (⟨7, [], 0, 0, l⟩ : Ns (Sc f))
theorem not_is (r : Rc) {f : Nat} (x : Sc f) : matchS r (f + 1) (notS x) = !matchS r f x := match_not r f rfl
theorem and_is (r : Rc) {f : Nat} (x y : Sc f) : matchS r (f + 1) (andsS [x, y]) = (matchS r f x && matchS r f y) := by
  rw [show matchS r (f + 1) (andsS [x, y]) = _ from match_all r f rfl]
  simp [andsS]
theorem or_is (r : Rc) {f : Nat} (x y : Sc f) : matchS r (f + 1) (orsS [x, y]) = (matchS r f x || matchS r f y) := by
  rw [show matchS r (f + 1) (orsS [x, y]) = _ from match_any r f rfl]
  simp [orsS]
theorem scope_nots (r : Rc) {f : Nat} (x y : Sc f) : matchS r (f + 2) (notS (andsS [x, y])) = matchS r (f + 2) (orsS [notS x, notS y]) ∧ matchS r (f + 2) (notS (orsS [x, y])) = matchS r (f + 2) (andsS [notS x, notS y]) ∧ matchS r (f + 2) (notS (notS x)) = matchS r f x := by
  refine ⟨?_, ?_, ?_⟩
  · rw [not_is, and_is, or_is, not_is, not_is, Bool.not_and]
  · rw [not_is, or_is, and_is, not_is, not_is, Bool.not_or]
  · rw [not_is, not_is, Bool.not_not]
def zheadS {α : Type} (x : Ns α) : List UInt8 :=
  UInt8.ofNat (x.op % 256).toNat :: ((if namedS x.op = true then texb x.name else []) ++ ((if x.op = 5 then numb x.from_.toNat ++ numb x.to_.toNat else []) ++ (if manyS x.op = true then numb x.kids.length else [])))
def bytesS : (f : Nat) → Sc f → List UInt8
  | 0, x => nomatch x
  | f + 1, (x : Ns (Sc f)) => zheadS x ++ (x.kids.map (bytesS f)).flatten
theorem bytesS_eq (f : Nat) (x : Ns (Sc f)) : bytesS (f + 1) x = zheadS x ++ (x.kids.map (bytesS f)).flatten := rfl
def putSc (f : Nat) (x : Sc f) : List UInt8 × Int := if mayS f x = true then (bytesS f x, 0) else ([], 1)
theorem same_bytes : ∀ (f g : Nat) (a : Sc f) (b : Sc g), sameS f g a b = true → bytesS f a = bytesS g b
  | 0, _, a, _, _ => nomatch a
  | _ + 1, 0, _, b, _ => nomatch b
  | f + 1, g + 1, (a : Ns (Sc f)), (b : Ns (Sc g)), e => by
    obtain ⟨h1, h2, h3, h4, h5⟩ := sameS_parts.1 e
    have : zheadS a = zheadS b := by unfold zheadS; rw [h1, h2, h3, h4, sameSL_len _ _ h5]
    rw [bytesS_eq, bytesS_eq, this, sameSL_mapeq (fun x y h => same_bytes f g x y h) _ _ h5]
def zeroNs {α : Type} : Ns α := ⟨0, [], 0, 0, []⟩
def kidsR {α : Type} (g : Option (List UInt8) → Option (List UInt8) × α) : Nat → Option (List UInt8) → Option (List UInt8) × List α
  | 0, st => (st, [])
  | n + 1, none => (none, [])
  | n + 1, some l => ((kidsR g n (g (some l)).1).1, (g (some l)).2 :: (kidsR g n (g (some l)).1).2)
def nameR (k : Int) (st : Option (List UInt8)) : Option (List UInt8) × List UInt8 := if namedS k = true then txtOf 16 st else (st, [])
def tickR (k : Int) (st : Option (List UInt8)) : Option (List UInt8) × Nat := if k = 5 then cntOf 1099511627776 st else (st, 0)
def manyR (k : Int) (st : Option (List UInt8)) : Option (List UInt8) × Nat := if manyS k = true then cntOf 24 st else if k = 8 then (st, 1) else (st, 0)
def readSc : (deep : Nat) → Option (List UInt8) → Option (List UInt8) × Ns (Sc deep)
  | 0, _ => (none, zeroNs)
  | _ + 1, none => (none, zeroNs)
  | _ + 1, some [] => (none, zeroNs)
  | d + 1, some (b :: l) =>
    let k : Int := b.toNat
    let r1 := nameR k (some l)
    let r2 := tickR k r1.1
    let r3 := tickR k r2.1
    let r4 := manyR k r3.1
    let r5 := kidsR (readSc d) r4.2 r4.1
    (r5.1, ⟨k, r1.2, (r2.2 : Int), (r3.2 : Int), r5.2⟩)
theorem rs_zero (st : Option (List UInt8)) : readSc 0 st = (none, zeroNs) := by cases st <;> rfl
theorem rs_none (d : Nat) : readSc d none = (none, zeroNs) := by cases d <;> rfl
theorem rs_nil (d : Nat) : readSc d (some []) = (none, zeroNs) := by cases d <;> rfl
theorem rs_cons (d : Nat) (b : UInt8) (l : List UInt8) : readSc (d + 1) (some (b :: l)) =
    ((kidsR (readSc d) (manyR (b.toNat : Int) (tickR (b.toNat : Int) (tickR (b.toNat : Int) (nameR (b.toNat : Int) (some l)).1).1).1).2 (manyR (b.toNat : Int) (tickR (b.toNat : Int) (tickR (b.toNat : Int) (nameR (b.toNat : Int) (some l)).1).1).1).1).1,
      ⟨(b.toNat : Int), (nameR (b.toNat : Int) (some l)).2, ((tickR (b.toNat : Int) (nameR (b.toNat : Int) (some l)).1).2 : Int), ((tickR (b.toNat : Int) (tickR (b.toNat : Int) (nameR (b.toNat : Int) (some l)).1).1).2 : Int),
        (kidsR (readSc d) (manyR (b.toNat : Int) (tickR (b.toNat : Int) (tickR (b.toNat : Int) (nameR (b.toNat : Int) (some l)).1).1).1).2 (manyR (b.toNat : Int) (tickR (b.toNat : Int) (tickR (b.toNat : Int) (nameR (b.toNat : Int) (some l)).1).1).1).1).2⟩) := rfl
def getSc (b : List UInt8) : Ns (Sc 8) × Int := if (readSc 8 (some b)).1 = some [] ∧ mayS 9 (readSc 8 (some b)).2 = true then ((readSc 8 (some b)).2, 0) else (zeroNs, 2)
end
section
open Go.RowKit Go.ChangeShapes Go.WideShapes Go.Joins
theorem cells_byte : Try.prog.cellsOf 5 = 1 := by kernel_rfl
def byteOf (z : Int) : UInt8 := UInt8.ofNat z.toNat
theorem byteOf_nat {z : Int} (h : (Lit.int .u8 z).wf = true) : ((byteOf z).toNat : Int) = z := by
  have hx : 0 ≤ z ∧ z ≤ 255 := by simpa [Lit.wf, IntKind.min, IntKind.max, IntKind.signed, IntKind.bits] using h
  unfold byteOf
  have : (UInt8.ofNat z.toNat).toNat = z.toNat % 256 := by simp
  rw [this]
  omega
theorem BS_of_trod {H : Type} {enc : TypeId × Value → H} {W : World} {fuel : Nat} {v : Value} {x : DataW H × List MemPlace}
    (h : DataW.trod enc Try.prog W 0 (fun _ => true) true fuel 27 [v] = some x) : ∃ l, BS W (fun _ => True) v l := by
  rcases open_ints Try.underlying27 Try.underlying5 cells_byte h with ⟨hcs, _⟩ | ⟨a, len, cap, zs, hcs, _, hl, hm, hz, _, hcell, hwz⟩
  · simp at hcs
    subst hcs
    exact ⟨[], BS.nil _ _⟩
  · simp at hcs
    subst hcs
    simp only [if_true] at hz
    have hlen : ((zs.take len).map byteOf).length = len := by simp; omega
    refine ⟨(zs.take len).map byteOf, some a, cap, by rw [hlen], by omega, hm, (fun h => by cases h), fun h0 => ?_⟩
    rw [hlen] at h0
    obtain ⟨b, o, rfl, hc⟩ := ints_at hcell (by omega)
    refine ⟨b, o, rfl, trivial, World.block_lt_of_cell? _ _ (hc 0 (by omega)), fun j u hu => ?_⟩
    have hj : j < len := by
      have := (List.getElem?_eq_some_iff.1 hu).1
      omega
    rw [hc j (by omega)]
    have hjz : j < zs.length := by omega
    simp [hj, List.getElem?_eq_getElem hjz] at hu
    subst hu
    unfold bv
    rw [byteOf_nat (hwz _ (List.getElem_mem hjz))]
    simp [List.getD, List.getElem?_eq_getElem hjz]
theorem BS_of_arg {H : Type} {enc : TypeId × Value → H} {W : World} {base : Nat} {v : Value} {d : DataW H} {p : List MemPlace}
    (ok : Value.okWide Try.prog W .any base 27 v) (h : DataW.Trod enc Try.prog W 0 (fun _ => true) true 27 v d p) : ∃ l, BS W (fun _ => True) v l := by
  obtain ⟨a0, len, cap, rfl⟩ := okWide_slice Try.underlying27 ok
  obtain ⟨fuel, hf⟩ := h
  exact BS_of_trod (x := _) hf
theorem cells_bytes : Try.prog.cellsOf 27 = 1 := by kernel_rfl
theorem LS_of_trod {H : Type} {enc : TypeId × Value → H} {W : World} {fuel : Nat} {v : Value} {x : DataW H × List MemPlace}
    (h : DataW.trod enc Try.prog W 0 (fun _ => true) true fuel 72 [v] = some x) : ∃ ls, LS W (fun b => b < W.heap.size) v ls := by
  rcases Deep.open_slice1 Try.underlying72 cells_bytes h with ⟨hcs, _⟩ | ⟨a, len, cap, m, n, V, D, Pl, hcs, _, hl, hm, hmm, _, hi⟩
  · simp at hcs
    subst hcs
    exact ⟨[], none, 0, rfl, by simp, by simp [maxLen], fun h0 => absurd h0 (by simp)⟩
  · simp at hcs
    subst hcs
    simp only [if_true] at hmm
    obtain ⟨f, hf⟩ := Deep.choose_lt (α := List UInt8) (n := m) (p := fun i l => BS W (fun _ => True) (V i) l) (fun i him => BS_of_trod (hi i him).2)
    have hlen : ((List.range len).map f).length = len := by simp
    refine ⟨(List.range len).map f, some a, cap, by rw [hlen], by omega, hm, fun h0 => ?_⟩
    rw [hlen] at h0
    obtain ⟨b, o, spot⟩ := a
    have hspot : spot = none := by simpa [Addr.add] using World.cell?_spot (hi 0 (by omega)).1
    subst hspot
    have hc0 := (hi 0 (by omega)).1
    rw [add_plain] at hc0
    refine ⟨b, o, rfl, World.block_lt_of_cell? _ _ hc0, World.block_lt_of_cell? _ _ hc0, fun j l hj => ?_⟩
    have hjl : j < len := by
      have := (List.getElem?_eq_some_iff.1 hj).1
      omega
    have hc := (hi j (by omega)).1
    rw [add_plain] at hc
    refine ⟨V j, hc, ?_⟩
    simp [hjl] at hj
    subst hj
    exact (hf j (by omega)).lt.mono fun _ h => h.2
end
section
open Go.RowKit
theorem nums_str (l : List UInt8) : strOfNums (l.map fun b => (b.toNat : Int)) = ⟨l.toArray⟩ := by
  unfold strOfNums
  congr 2
  rw [List.map_map]
  have : ((fun n : Int => UInt8.ofNat n.toNat) ∘ fun b : UInt8 => (b.toNat : Int)) = id := by
    funext b
    simp
  rw [this, List.map_id]
theorem BS.str {P : Program} {w : World} {S : Nat → Prop} {v : Value} {l : List UInt8} (h : BS w S v l) {src e dst : TypeId} (hs : P.underlying src = some (.slice e)) (he : P.underlying e = some (.int .u8)) (hd : P.underlying dst = some .string) :
    (convert src dst v).run P w = .ok (.string ⟨l.toArray⟩) w := by
  obtain ⟨A, c, rfl, hc, hm, hn⟩ := h.form
  by_cases h0 : l = []
  · subst h0
    cases A with
    | none => exact run_convert_bytes_nil w src e hs he 0 c dst hd
    | some a =>
      obtain ⟨b, o, s⟩ := a
      have hz : ∀ (a : Addr), (loadCells a 0).run P w = .ok #[] w := by
        intro a
        simp [loadCells, loadCellsFrom]
      rw [run_convert_bytes_string w src dst e _ _ _ hs he hd]
      simp [Conv.bytesToString, hz]
      rfl
  · have hp : 0 < l.length := by cases l with
    | nil => exact absurd rfl h0
    | cons a t => simp
    obtain ⟨b, o, rfl, _, _, hx⟩ := h.at_ hp
    have := run_convert_bytes_arg (P := P) w src e hs he b o l.length c (l.map fun b => (b.toNat : Int)) (by simp) (fun i hi => by
      have := hx i l[i] (List.getElem?_eq_getElem hi)
      rw [this]
      simp [List.getD, List.getElem?_eq_getElem hi]) dst hd
    rw [nums_str] at this
    exact this
theorem cell_bv : Extern.Stop.cell = bv := rfl
theorem eq_bytes {P : Program} (w : World) (d : Nat) (t e : TypeId) (n : Nat) (ht : P.underlying t = some (.array n e)) (he : P.underlying e = some (.int .u8)) (hsz : ∀ w, (sizeOf e).run P w = .ok 1 w)
    (xs ys : List UInt8) (hx : xs.length = n) (hy : ys.length = n) :
    (Op.equalIn (d + 2) t (.agg (xs.map bv).toArray) (.agg (ys.map bv).toArray)).run P w = .ok (xs == ys) w :=
  run_equalIn_bytes w d t e n ht he hsz xs ys hx hy
theorem LS.one {w : World} {S : Nat → Prop} {x : Value} {l : List UInt8} {t : TypeId} (hx : BS w S x l) :
    LS (w.alloc (.cells #[x] t)) (fun b => S b ∨ b = w.heap.size) (.slice (some ⟨w.heap.size, 0, none⟩) 1 1) [l] := by
  refine ⟨_, 1, rfl, by simp, by simp [maxLen], fun _ => ⟨w.heap.size, 0, rfl, .inr rfl, by simp, fun j l' hj => ?_⟩⟩
  have hk := KB.new w t #[x]
  match j, hj with
  | 0, hj => simp at hj; subst hj; exact ⟨x, hk.cell 0, (hx.alloc _).mono fun b h => .inl h⟩
theorem LS.lt {w : World} {S : Nat → Prop} {v : Value} {ls : List (List UInt8)} (h : LS w S v ls) : LS w (fun b => b < w.heap.size) v ls := by
  obtain ⟨A, c, e, hl, hc, hx⟩ := h
  refine ⟨A, c, e, hl, hc, fun h0 => ?_⟩
  obtain ⟨b, o, ea, sb, hb, hx⟩ := hx h0
  refine ⟨b, o, ea, hb, hb, fun j l hj => ?_⟩
  obtain ⟨x, h1, h2⟩ := hx j l hj
  exact ⟨x, h1, h2.lt.mono fun _ h => h.2⟩
theorem LS.nil (w : World) (S : Nat → Prop) : LS w S (.slice none 0 0) [] := ⟨none, 0, rfl, by simp, by simp [maxLen], fun h => absurd h (by simp)⟩
def rowOf (w : World) (g : Nat) : Array Value := match w.heap[g]? with
  | some (.cells cs _ _) => cs
  | _ => #[]
theorem rowOf_kb {w : World} {g : Nat} {t : TypeId} {cs : Array Value} (h : KB w g t cs) : rowOf w g = cs := by
  unfold rowOf
  unfold KB at h
  rw [h]
theorem rowOf_drew (w : World) (g : Nat) : rowOf w.drew g = rowOf w g := rfl
theorem rowOf_drewN (w : World) (g n : Nat) : rowOf (w.drewN n) g = rowOf w g := rfl
theorem run_loadAt_rowOf {P : Program} {ty e : TypeId} {n : Nat} (hu : P.underlying ty = some (.array n e)) {m : Nat} (hi : (P.info? ty).map (·.size) = some m) (hm : 0 < m) (w : World) (g : Nat) (h : (rowOf w g).size = m) :
    (Instr.loadAt ty (.pointer (some ⟨g, 0, none⟩))).run P w = .ok (.agg (rowOf w g)) w := by
  have hr : w.rangeAt g 0 (rowOf w g).toList := by
    intro j v hj
    unfold rowOf at hj h
    split at hj
    · rename_i cs t fr hg
      rw [cell_of_row w g (0 + j) cs t fr hg, Nat.zero_add]
      simpa using hj
    · simp at hj
  have := run_loadAt_mid (P := P) w g 0 ty (rowOf w g).toList _ hr hu rfl (by rw [hi]; simp [h])
  simpa using this
def ptrBlock (v : Value) : Nat := match v with
  | .pointer (some ⟨g, 0, none⟩) => g
  | _ => 0
theorem ptrBlock_mk (g : Nat) : ptrBlock (.pointer (some ⟨g, 0, none⟩)) = g := rfl
theorem wp_load_rowOf {P : Program} {ty e : TypeId} {n : Nat} (hu : P.underlying ty = some (.array n e)) {m : Nat} (hi : (P.info? ty).map (·.size) = some m) (hm : 0 < m)
    {d : Option Tmp} {x : Operand} {t : TypeId} {pos : String} {after : Array Edge} {gd : Option (Nat × Bool)} {a : Act} {w : World} {K : Act → World → Prop} {Q : Exit → Act → World → Prop}
    (hx : a.eval x = .pointer (some ⟨ptrBlock (a.eval x), 0, none⟩)) (h : (rowOf w (ptrBlock (a.eval x))).size = m) :
    Oper.wp P { dst := d, op := Op.load ty x, type := t, pos := pos, after := after, guard := gd } a w K Q = K (a.put d (.agg (rowOf w (ptrBlock (a.eval x))))) w := by
  have hrun := run_loadAt_rowOf (P := P) hu hi hm w _ h
  rw [← hx] at hrun
  unfold Oper.wp execOp
  simp only [Sem.run_bind, hrun, Result.andThen_ok, Sem.run_pure]
  rfl
end
section
open Go.RowKit
theorem info_byte : (Try.prog.info? 5).map (fun i => (i.zero, i.size, i.bytes)) = some (some (.int .u8 0), 1, 1) := by kernel_rfl
theorem own_BS {w' : World} {v : Value} {l : List UInt8} {B : Nat} (h : w'.ownsRow B 5 1 v l.length (l.map bv)) : BS w' (fun b => B ≤ b ∧ b < w'.heap.size) v l := (BS.of_own h).lt
theorem drewN_twice (w : World) (n m : Nat) : (w.drewN n).drewN m = w.drewN (n + m) := by simp [World.drewN, Nat.add_assoc]
theorem ret_int {k : IntKind} {a b : Int} (h : a = b) : Ending.returned (.int k a) = .returned (.int k b) := by rw [h]
theorem own_base {w : World} {B B' e size n : Nat} {v : Value} {xs : List Value} (h : w.ownsRow B' e size v n xs) (hB : B ≤ B') : w.ownsRow B e size v n xs := by
  obtain ⟨h1, h2⟩ := h
  refine ⟨h1, ?_⟩
  rcases h2 with h2 | ⟨g, c, cur, a, b, r⟩
  · exact .inl h2
  · exact .inr ⟨g, c, cur, a, by omega, r⟩
def Fresh (w : World) (e : Ending) (w' : World) (l : List UInt8) : Prop :=
  ∃ v, e = .returned v ∧ w'.ownsRow w.heap.size 5 1 v l.length (l.map bv) ∧ Below w.heap.size w w'
theorem lit_one (w : World) (m : Nat) (base : Nat) (hb : base ≤ w.heap.size) : (w.alloc (.cells #[bv (UInt8.ofNat (m % 256))] 5)).ownsRow base 5 1 (.slice (some ⟨w.heap.size, 0, none⟩) 1 1) [UInt8.ofNat (m % 256)].length ([UInt8.ofNat (m % 256)].map bv) :=
  World.ownsRow_lit w #[bv (UInt8.ofNat (m % 256))] 1 hb (by simp [maxLen]) rfl
theorem byte_mod (m : Nat) : Value.int .u8 ((m : Int) % 256) = bv (UInt8.ofNat (m % 256)) := by
  unfold bv
  have : (UInt8.ofNat (m % 256)).toNat = m % 256 := by simp
  rw [this]
  congr 1
end
section
open Go.RowKit Go.ChangeShapes Go.WideShapes Go.Joins
def strV (l : List UInt8) : Value := .string ⟨l.toArray⟩
theorem cells_str : Try.prog.cellsOf 9 = 1 := by kernel_rfl
theorem open_str {H : Type} {enc : TypeId × Value → H} {W : World} {base : Nat} {v : Value} {d : DataW H} {p : List MemPlace}
    (ok : Value.okWide Try.prog W .any base 9 v) (h : DataW.Trod enc Try.prog W 0 (fun _ => true) true 9 v d p) : ∃ l : List UInt8, v = strV l ∧ l.length ≤ maxLen := by
  obtain ⟨n, hn⟩ := h
  obtain ⟨s, hs⟩ := okWide_string Try.underlying9 ok
  subst hs
  obtain ⟨s', e, _, hs⟩ := DataW.trod_string Try.underlying9 hn
  simp [Value.cells] at e
  subst e
  have : s.data.toList.length = s.size := by rw [Array.length_toList]; rfl
  exact ⟨s.data.toList, rfl, by omega⟩
theorem str_eq (l m : List UInt8) : ((⟨l.toArray⟩ : ByteArray).toList == (⟨m.toArray⟩ : ByteArray).toList) = decide (l = m) := by
  rw [Lib.toList_data, Lib.toList_data]
  show (l == m) = _
  by_cases h : l = m
  · rw [decide_eq_true h]; exact beq_iff_eq.2 h
  · rw [decide_eq_false h]; exact beq_eq_false_iff_ne.2 h
theorem conv_str (w : World) (l : List UInt8) (hl : l.length ≤ maxLen) : ∃ c w', (convert 9 27 (strV l)).run Try.prog w = .ok (.slice (some ⟨w.heap.size, 0, none⟩) l.length c) w' ∧
    BS w' (fun b => w.heap.size ≤ b ∧ b < w'.heap.size) (.slice (some ⟨w.heap.size, 0, none⟩) l.length c) l ∧ Below w.heap.size w w' := by
  refine ⟨_, _, Lib.run_convert_string_bytes (P := Try.prog) w 9 27 5 ⟨l.toArray⟩ (u := .string) Try.underlying9 Try.underlying27 Try.underlying5, ?_, ?_⟩
  · refine ⟨_, _, rfl, grownCap_ge _ _ _ _, grownCap_le_maxLen _ _ _ _ hl, (fun h => by cases h), fun h0 => ⟨w.heap.size, 0, rfl, ⟨Nat.le_refl _, by rw [Lib.bytesWorld_size]; omega⟩, by rw [Lib.bytesWorld_size]; omega, fun j u hu => ?_⟩⟩
    have hj := (List.getElem?_eq_some_iff.1 hu).1
    rw [Nat.zero_add, Lib.bytesWorld_cell w _ ⟨l.toArray⟩ j hj]
    simp [hu]
  · exact ⟨rfl, rfl, rfl, by rw [Lib.bytesWorld_size]; omega, fun j hj => Lib.bytesWorld_at_old w _ _ j hj⟩
end
end Go.Proofs.Ytcbkokhjdleoeaa
