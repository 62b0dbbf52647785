/-
  WrM: Plain mathematics of layer 21 (writ): a scope's words and text; a text's words; how words are read as a scope. No program. No condition.
  WrP: Plain mathematics of layer 21 (writ): there and back (P21.3): what is written of a scope that may be is read as that scope. No program. No condition.
  WtM: Plain mathematics of layer 21 (writ): a scope's text, byte by byte as it is put together; it is its words with blanks between; it is short. No program. No condition.
-/
import Derived.Test.YtjecjlhofnnnpaaGreatDoorWy03
set_option linter.unusedVariables false
set_option maxRecDepth 100000
namespace Go.Proofs.YtjecjlhofnnnpaaGreatDoor
section
open Go.Lib
abbrev Wv := List UInt8
def wAll : Wv := [97, 108, 108]
def wCase : Wv := [99, 97, 115, 101]
def wSubj : Wv := [115, 117, 98, 106, 101, 99, 116]
def wClass : Wv := [99, 108, 97, 115, 115]
def wTime : Wv := [116, 105, 109, 101]
def wNot : Wv := [110, 111, 116]
def wAnd : Wv := [97, 110, 100]
def wOr : Wv := [111, 114]
def wOpen : Wv := [40]
def wClose : Wv := [41]
def opS : (f : Nat) → Sc f → Int
  | 0, x => nomatch x
  | _ + 1, (x : Ns _) => x.op
theorem opS_eq (f : Nat) (x : Ns (Sc f)) : opS (f + 1) x = x.op := rfl
def sepW (s : Wv) : List (List Wv) → List Wv
  | [] => []
  | [t] => t
  | t :: u :: ts => t ++ s :: sepW s (u :: ts)
def spanV (a b : Int) : Wv := decDigits a.toNat ++ 45 :: decDigits b.toNat
def bracedW (op k : Int) : Bool := decide (k = 7 ∨ (k = 6 ∧ op ≠ 7))
def toksW : (f : Nat) → Sc f → List Wv
  | 0, x => nomatch x
  | f + 1, (x : Ns (Sc f)) =>
    if x.op = 1 then [wAll] else if x.op = 2 then [wCase, x.name] else if x.op = 3 then [wSubj, x.name] else if x.op = 4 then [wClass, x.name]
    else if x.op = 5 then [wTime, spanV x.from_ x.to_]
    else if x.op = 8 then wNot :: (match x.kids with | [] => [] | k :: _ => if bracedW 8 (opS f k) = true then wOpen :: (toksW f k ++ [wClose]) else toksW f k)
    else sepW (if x.op = 7 then wOr else wAnd) (x.kids.map fun k => if bracedW x.op (opS f k) = true then wOpen :: (toksW f k ++ [wClose]) else toksW f k)
def kidW (f : Nat) (op : Int) (k : Sc f) : List Wv := if bracedW op (opS f k) = true then wOpen :: (toksW f k ++ [wClose]) else toksW f k
theorem toksW_eq (f : Nat) (x : Ns (Sc f)) : toksW (f + 1) x =
    if x.op = 1 then [wAll] else if x.op = 2 then [wCase, x.name] else if x.op = 3 then [wSubj, x.name] else if x.op = 4 then [wClass, x.name]
    else if x.op = 5 then [wTime, spanV x.from_ x.to_]
    else if x.op = 8 then wNot :: (match x.kids with | [] => [] | k :: _ => kidW f 8 k)
    else sepW (if x.op = 7 then wOr else wAnd) (x.kids.map (kidW f x.op)) := rfl
def joinW : List Wv → List UInt8
  | [] => []
  | [w] => w
  | w :: v :: ws => w ++ 32 :: joinW (v :: ws)
def wordsW : List UInt8 → List Wv
  | [] => [[]]
  | b :: l => match wordsW l with
    | [] => [[b]]
    | w :: ws => if b = 32 then [] :: w :: ws else (b :: w) :: ws
def textSc (f : Nat) (x : Sc f) : List UInt8 × Int := if mayS f x = true then (joinW (toksW f x), 0) else ([], 1)
def numT (l : Wv) : Option Nat := if l.length < 1 ∨ 13 < l.length ∨ (l.head? = some 48 ∧ 1 < l.length) then none else numF 0 l
def cutW : Wv → Option (Wv × Wv)
  | [] => none
  | b :: l => if b = 45 then some ([], l) else (cutW l).map fun p => (b :: p.1, p.2)
def timeW (w : Wv) : Option (Nat × Nat) := (cutW w).bind fun p => (numT p.1).bind fun a => (numT p.2).bind fun b => if a ≤ b ∧ b ≤ 1099511627776 then some (a, b) else none
def manyW {α : Type} (g : List Wv → Option (α × List Wv)) (s : Wv) : Nat → List Wv → Option (List α × List Wv)
  | 0, _ => none
  | n + 1, ws => match g ws with
    | none => none
    | some (x, []) => some ([x], [])
    | some (x, w :: rest) => if w = s then (manyW g s n rest).map fun p => (x :: p.1, p.2) else some ([x], w :: rest)
def manyL {α : Type} (g : List Wv → Option (α × List Wv)) (s : Wv) (ws : List Wv) : Option (List α × List Wv) := manyW g s (ws.length + 1) ws
def oneV {f : Nat} (op : Int) (l : List (Sc f)) : Sc (f + 1) := match l with
  | [x] => liftS f x
  | l => (⟨op, [], 0, 0, l⟩ : Ns (Sc f))
def andV {f : Nat} (g : List Wv → Option (Sc f × List Wv)) (ws : List Wv) : Option (Sc (f + 1) × List Wv) := (manyL g wAnd ws).map fun p => (oneV 6 p.1, p.2)
def orV {f : Nat} (g : List Wv → Option (Sc f × List Wv)) (ws : List Wv) : Option (Sc (f + 2) × List Wv) := (manyL (andV g) wOr ws).map fun p => (oneV 7 p.1, p.2)
def namesOp (w : Wv) : Int := if w = wCase then 2 else if w = wSubj then 3 else if w = wClass then 4 else 0
def leafS {f : Nat} (op : Int) (n : Wv) (a b : Int) : Sc (f + 1) := (⟨op, n, a, b, []⟩ : Ns (Sc f))
def notsS {f : Nat} (x : Sc f) : Sc (f + 2) := liftS (f + 1) (⟨8, [], 0, 0, [x]⟩ : Ns (Sc f))
def factW : (d : Nat) → List Wv → Option (Sc (2 * d + 1) × List Wv)
  | 0 => fun _ => none
  | d + 1 => fun ws => match ws with
    | [] => none
    | w :: ws =>
      if w = wNot then (factW d ws).map fun p => (notsS p.1, p.2)
      else if w = wOpen then (orV (factW d) ws).bind fun p => match p.2 with
        | [] => none
        | c :: rest => if c = wClose then some (p.1, rest) else none
      else if w = wAll then some (leafS 1 [] 0 0, ws)
      else match ws with
        | [] => none
        | n :: rest =>
          if w = wTime then (timeW n).map fun p => (leafS 5 [] (p.1 : Int) (p.2 : Int), rest)
          else if namesOp w = 0 ∨ nameS n = false then none else some (leafS (namesOp w) n 0 0, rest)
def parseSc (s : List UInt8) : Ns (Sc 84) × Int :=
  if 1000 < s.length then (zeroNs, 3)
  else match orV (factW 41) (wordsW s) with
    | some (x, []) => if mayS 85 x = true then (x, 0) else (zeroNs, 1)
    | _ => (zeroNs, 2)
/-! Reading takes words. -/
def Shrinks {α : Type} (g : List Wv → Option (α × List Wv)) : Prop := ∀ ws x rest, g ws = some (x, rest) → rest.length < ws.length
theorem manyW_shrinks {α : Type} {g : List Wv → Option (α × List Wv)} {s : Wv} (hg : Shrinks g) : ∀ (n : Nat), Shrinks (manyW g s n)
  | 0 => fun ws x rest h => by cases h
  | n + 1 => fun ws x rest h => by
    rw [manyW] at h
    cases hq : g ws with
    | none => rw [hq] at h; cases h
    | some p =>
      obtain ⟨y, r⟩ := p
      have h1 := hg ws y r hq
      rw [hq] at h
      cases r with
      | nil =>
        dsimp only at h
        injection h with h; injection h with _ h; rw [← h]; exact h1
      | cons w r =>
        dsimp only at h
        split at h
        · cases hm : manyW g s n r with
          | none => rw [hm] at h; cases h
          | some p2 =>
            rw [hm] at h
            simp only [Option.map_some] at h
            injection h with h; injection h with _ h
            have := manyW_shrinks hg n r p2.1 p2.2 hm
            rw [← h]
            simp at h1; omega
        · injection h with h; injection h with _ h; rw [← h]; exact h1
theorem manyW_gas {α : Type} {g : List Wv → Option (α × List Wv)} {s : Wv} (hg : Shrinks g) : ∀ (n m : Nat) (ws : List Wv), ws.length < n → ws.length < m → manyW g s n ws = manyW g s m ws
  | 0, _, ws, h, _ => by omega
  | _ + 1, 0, ws, _, h => by omega
  | n + 1, m + 1, ws, h1, h2 => by
    rw [manyW, manyW]
    cases hq : g ws with
    | none => rfl
    | some p =>
      obtain ⟨y, r⟩ := p
      have hs := hg ws y r hq
      cases r with
      | nil => rfl
      | cons w r =>
        simp at hs
        dsimp only
        rw [manyW_gas hg n m r (by omega) (by omega)]
theorem manyL_eq {α : Type} {g : List Wv → Option (α × List Wv)} {s : Wv} (hg : Shrinks g) (ws : List Wv) : manyL g s ws = match g ws with
    | none => none
    | some (x, []) => some ([x], [])
    | some (x, w :: rest) => if w = s then (manyL g s rest).map fun p => (x :: p.1, p.2) else some ([x], w :: rest) := by
  unfold manyL
  rw [manyW]
  cases hq : g ws with
  | none => rfl
  | some p =>
    obtain ⟨y, r⟩ := p
    have hs := hg ws y r hq
    cases r with
    | nil => rfl
    | cons w r =>
      simp at hs
      dsimp only
      rw [manyW_gas hg ws.length (r.length + 1) r (by omega) (by omega)]
theorem andW_shrinks {f : Nat} {g : List Wv → Option (Sc f × List Wv)} (hg : Shrinks g) : Shrinks (andV g) := fun ws x rest h => by
  unfold andV manyL at h
  cases hm : manyW g wAnd (ws.length + 1) ws with
  | none => rw [hm] at h; cases h
  | some p =>
    rw [hm] at h
    injection h with h; injection h with _ h
    rw [← h]; exact manyW_shrinks hg _ _ _ _ hm
theorem orW_shrinks {f : Nat} {g : List Wv → Option (Sc f × List Wv)} (hg : Shrinks g) : Shrinks (orV g) := fun ws x rest h => by
  unfold orV manyL at h
  cases hm : manyW (andV g) wOr (ws.length + 1) ws with
  | none => rw [hm] at h; cases h
  | some p =>
    rw [hm] at h
    injection h with h; injection h with _ h
    rw [← h]; exact manyW_shrinks (andW_shrinks hg) _ _ _ _ hm
theorem factW_shrinks : ∀ (d : Nat), Shrinks (factW d)
  | 0 => fun ws x rest h => by cases h
  | d + 1 => fun ws x rest h => by
    rw [factW.eq_2] at h
    cases ws with
    | nil => cases h
    | cons w ws =>
      dsimp only at h
      split at h
      · cases hm : factW d ws with
        | none => rw [hm] at h; cases h
        | some p =>
          rw [hm] at h
          injection h with h; injection h with _ h
          have := factW_shrinks d _ _ _ hm
          rw [← h]; simp; omega
      · split at h
        · cases hm : orV (factW d) ws with
          | none => rw [hm] at h; cases h
          | some p =>
            rw [hm] at h
            have := orW_shrinks (factW_shrinks d) _ _ _ hm
            rw [Option.bind_some] at h
            cases hp : p.2 with
            | nil => rw [hp] at h; cases h
            | cons c r =>
              rw [hp] at h this
              dsimp only at h
              split at h
              · injection h with h; injection h with _ h
                rw [← h]; simp at this ⊢; omega
              · cases h
        · split at h
          · injection h with h; injection h with _ h
            rw [← h]; simp
          · cases ws with
            | nil => cases h
            | cons n r =>
              dsimp only at h
              split at h
              · cases hm : timeW n with
                | none => rw [hm] at h; cases h
                | some p =>
                  rw [hm] at h
                  injection h with h; injection h with _ h
                  rw [← h]; simp; omega
              · split at h
                · cases h
                · injection h with h; injection h with _ h
                  rw [← h]; simp; omega
end
section
open Go.Lib
/-! Words that are joined are parted again. -/
theorem wwords_one : ∀ (w : Wv), (32 : UInt8) ∉ w → wordsW w = [w]
  | [], _ => rfl
  | b :: l, h => by
    have hb : ¬ b = 32 := fun e => h (by rw [e]; exact List.mem_cons_self ..)
    have hl := wwords_one l fun e => h (List.mem_cons_of_mem _ e)
    rw [wordsW, hl]
    exact if_neg hb
theorem words_more : ∀ (w : Wv) (l : List UInt8), (32 : UInt8) ∉ w → wordsW (w ++ 32 :: l) = w :: wordsW l
  | [], l, _ => by
    rw [List.nil_append, wordsW]
    cases hq : wordsW l with
    | nil =>
      exfalso
      cases l with
      | nil => cases hq
      | cons b l =>
        rw [wordsW] at hq
        split at hq
        · cases hq
        · split at hq <;> cases hq
    | cons v vs => exact if_pos rfl
  | b :: w, l, h => by
    have hb : ¬ b = 32 := fun e => h (by rw [e]; exact List.mem_cons_self ..)
    have hl := words_more w l fun e => h (List.mem_cons_of_mem _ e)
    rw [List.cons_append, wordsW, hl]
    exact if_neg hb
theorem words_join : ∀ (ws : List Wv), ws ≠ [] → (∀ w ∈ ws, (32 : UInt8) ∉ w) → wordsW (joinW ws) = ws
  | [], h, _ => absurd rfl h
  | [w], _, h => by rw [joinW]; exact wwords_one w (h w (List.mem_cons_self ..))
  | w :: v :: ws, _, h => by
    rw [joinW, words_more w _ (h w (List.mem_cons_self ..)), words_join (v :: ws) (by simp) fun x hx => h x (List.mem_cons_of_mem _ hx)]
/-! Digits. -/
theorem digits_ok : ∀ (k : Nat), ∀ b ∈ decDigits k, 48 ≤ b.toNat ∧ b.toNat ≤ 57 := by
  intro k
  induction k using Nat.strongRecOn with
  | _ k ih =>
    intro b hb
    by_cases h : k < 10
    · rw [decDigits_one h, List.mem_singleton] at hb
      rw [hb, digit_nat k h]; omega
    · rw [decDigits, dif_neg h, List.mem_append] at hb
      rcases hb with hb | hb
      · exact ih (k / 10) (by omega) b hb
      · rw [List.mem_singleton] at hb
        rw [hb, digit_nat (k % 10) (by omega)]; omega
theorem digits_len {k : Nat} (h : k ≤ 1099511627776) : (decDigits k).length ≤ 13 := by
  rw [decDigits_length]
  have := nDigits_mono k 1099511627776 h
  have e : nDigits 1099511627776 = 13 := nDigits_unique 12 _ (by decide) (by decide)
  omega
theorem numT_digits {k : Nat} (h : k ≤ 1099511627776) : numT (decDigits k) = some k := by
  unfold numT
  have h1 := digits_pos k
  have h2 := digits_len h
  rw [if_neg, numF_digits]
  rintro (h3 | h3 | ⟨h3, h4⟩)
  · omega
  · omega
  · by_cases hk : 1 ≤ k
    · exact digits_head k hk h3
    · obtain rfl : k = 0 := by omega
      rw [decDigits_one (by omega)] at h4
      simp at h4
theorem cut_at : ∀ (a : Wv) (b : Wv), (45 : UInt8) ∉ a → cutW (a ++ 45 :: b) = some (a, b)
  | [], b, _ => by rw [List.nil_append, cutW, if_pos rfl]
  | c :: a, b, h => by
    have hc : ¬ c = 45 := fun e => h (by rw [e]; exact List.mem_cons_self ..)
    rw [List.cons_append, cutW, if_neg hc, cut_at a b fun e => h (List.mem_cons_of_mem _ e)]
    rfl
theorem time_span {a b : Int} (h0 : 0 ≤ a) (h1 : a ≤ b) (h2 : b ≤ 1099511627776) : timeW (spanV a b) = some (a.toNat, b.toNat) := by
  unfold timeW spanV
  rw [cut_at _ _ fun h => by have := digits_ok _ _ h; simp at this]
  simp only [Option.bind_some]
  rw [numT_digits (by omega), Option.bind_some, numT_digits (by omega), Option.bind_some, if_pos (by omega)]
/-! No word of a scope has a blank; none is missing. -/
theorem sep_mem {s w : Wv} : ∀ {ts : List (List Wv)}, w ∈ sepW s ts → w = s ∨ ∃ t ∈ ts, w ∈ t
  | [], h => by cases h
  | [t], h => .inr ⟨t, List.mem_cons_self .., h⟩
  | t :: u :: ts, h => by
    rw [sepW, List.mem_append, List.mem_cons] at h
    rcases h with h | h | h
    · exact .inr ⟨t, List.mem_cons_self .., h⟩
    · exact .inl h
    · rcases sep_mem h with h | ⟨x, hx, h⟩
      · exact .inl h
      · exact .inr ⟨x, List.mem_cons_of_mem _ hx, h⟩
theorem name_blank {n : Wv} (h : nameS n = true) : (32 : UInt8) ∉ n := fun hm => by
  have := ((name_iff n).1 h).2.2 _ hm
  exact absurd this (by decide)
theorem span_blank (a b : Int) : (32 : UInt8) ∉ spanV a b := fun h => by
  unfold spanV at h
  rw [List.mem_append, List.mem_cons] at h
  rcases h with h | h | h
  · have := digits_ok _ _ h; simp at this
  · cases h
  · have := digits_ok _ _ h; simp at this
theorem fits_named {f : Nat} {x : Ns (Sc f)} (h : fitsS x = true) (hk : x.op = 2 ∨ x.op = 3 ∨ x.op = 4) : nameS x.name = true ∧ x.from_ = 0 ∧ x.to_ = 0 ∧ x.kids = [] := by
  obtain ⟨_, h2, h3, h4⟩ := (fits_iff x).1 h
  have hn : namedS x.op = true := decide_eq_true hk
  have hm : ¬ manyS x.op = true := by unfold manyS; rw [decide_eq_true_eq]; omega
  rw [if_pos hn] at h2
  rw [if_neg (by omega)] at h3
  unfold kidsOk at h4
  rw [if_neg hm, if_neg (by omega)] at h4
  have h3 := of_decide_eq_true h3
  exact ⟨h2, h3.1, h3.2, List.eq_nil_of_length_eq_zero (of_decide_eq_true h4)⟩
theorem fits_plain {f : Nat} {x : Ns (Sc f)} (h : fitsS x = true) (hk : ¬ (x.op = 2 ∨ x.op = 3 ∨ x.op = 4)) : x.name = [] := by
  obtain ⟨_, h2, _, _⟩ := (fits_iff x).1 h
  have hn : ¬ namedS x.op = true := by unfold namedS; rw [decide_eq_true_eq]; exact hk
  rw [if_neg hn] at h2
  exact of_decide_eq_true h2
theorem fits_time {f : Nat} {x : Ns (Sc f)} (h : fitsS x = true) (hk : x.op = 5) : 0 ≤ x.from_ ∧ x.from_ ≤ x.to_ ∧ x.to_ ≤ 1099511627776 ∧ x.kids = [] := by
  obtain ⟨_, _, h3, h4⟩ := (fits_iff x).1 h
  rw [if_pos hk] at h3
  unfold kidsOk at h4
  rw [if_neg (by unfold manyS; rw [decide_eq_true_eq]; omega), if_neg (by omega)] at h4
  have h3 := of_decide_eq_true h3
  exact ⟨h3.1, h3.2.1, h3.2.2, List.eq_nil_of_length_eq_zero (of_decide_eq_true h4)⟩
theorem fits_zero {f : Nat} {x : Ns (Sc f)} (h : fitsS x = true) (hk : ¬ x.op = 5) : x.from_ = 0 ∧ x.to_ = 0 := by
  obtain ⟨_, _, h3, _⟩ := (fits_iff x).1 h
  rw [if_neg hk] at h3
  exact of_decide_eq_true h3
theorem fits_all {f : Nat} {x : Ns (Sc f)} (h : fitsS x = true) (hk : x.op = 1) : x.kids = [] := by
  obtain ⟨_, _, _, h4⟩ := (fits_iff x).1 h
  unfold kidsOk at h4
  rw [if_neg (by unfold manyS; rw [decide_eq_true_eq]; omega), if_neg (by omega)] at h4
  exact List.eq_nil_of_length_eq_zero (of_decide_eq_true h4)
theorem fits_not {f : Nat} {x : Ns (Sc f)} (h : fitsS x = true) (hk : x.op = 8) : ∃ k, x.kids = [k] := by
  obtain ⟨_, _, _, h4⟩ := (fits_iff x).1 h
  unfold kidsOk at h4
  rw [if_neg (by unfold manyS; rw [decide_eq_true_eq]; omega), if_pos hk] at h4
  have h4 := of_decide_eq_true h4
  match x.kids, h4 with
  | [k], _ => exact ⟨k, rfl⟩
theorem wfits_many {f : Nat} {x : Ns (Sc f)} (h : fitsS x = true) (hk : x.op = 6 ∨ x.op = 7) : 2 ≤ x.kids.length := by
  obtain ⟨_, _, _, h4⟩ := (fits_iff x).1 h
  unfold kidsOk at h4
  rw [if_pos (by unfold manyS; exact decide_eq_true hk)] at h4
  exact of_decide_eq_true h4
theorem wok_fits {f : Nat} {x : Ns (Sc f)} {d : Int} (h : okS (f + 1) x d = true) : 1 ≤ d ∧ fitsS x = true ∧ ∀ k ∈ x.kids, okS f k (d - 1) = true := by
  rw [okS_eq] at h
  simp only [Bool.and_eq_true, decide_eq_true_eq, List.all_eq_true] at h
  exact ⟨h.1.1, h.1.2, h.2⟩
theorem toks_blank : ∀ (f : Nat) (x : Sc f) (d : Int), okS f x d = true → ∀ w ∈ toksW f x, (32 : UInt8) ∉ w
  | 0, x, _, _ => nomatch x
  | f + 1, (x : Ns (Sc f)), d, h => by
    obtain ⟨_, hf, hk⟩ := wok_fits h
    have hkid : ∀ op, ∀ k ∈ x.kids, ∀ w ∈ kidW f op k, (32 : UInt8) ∉ w := fun op k hx w hw => by
      have ih := toks_blank f k (d - 1) (hk k hx)
      unfold kidW at hw
      split at hw
      · rw [List.mem_cons, List.mem_append, List.mem_singleton] at hw
        rcases hw with rfl | hw | rfl
        · decide
        · exact ih w hw
        · decide
      · exact ih w hw
    intro w hw
    rw [toksW_eq] at hw
    by_cases h1 : x.op = 1
    · rw [if_pos h1, List.mem_singleton] at hw
      rw [hw]; decide
    rw [if_neg h1] at hw
    by_cases h2 : x.op = 2
    · rw [if_pos h2] at hw
      simp at hw
      rcases hw with rfl | rfl
      · decide
      · exact name_blank (fits_named hf (.inl h2)).1
    rw [if_neg h2] at hw
    by_cases h3 : x.op = 3
    · rw [if_pos h3] at hw
      simp at hw
      rcases hw with rfl | rfl
      · decide
      · exact name_blank (fits_named hf (.inr (.inl h3))).1
    rw [if_neg h3] at hw
    by_cases h4 : x.op = 4
    · rw [if_pos h4] at hw
      simp at hw
      rcases hw with rfl | rfl
      · decide
      · exact name_blank (fits_named hf (.inr (.inr h4))).1
    rw [if_neg h4] at hw
    by_cases h5 : x.op = 5
    · rw [if_pos h5] at hw
      simp at hw
      rcases hw with rfl | rfl
      · decide
      · exact span_blank _ _
    rw [if_neg h5] at hw
    by_cases h8 : x.op = 8
    · rw [if_pos h8] at hw
      obtain ⟨k, ek⟩ := fits_not hf h8
      rw [ek, List.mem_cons] at hw
      rcases hw with rfl | hw
      · decide
      · exact hkid 8 k (by rw [ek]; simp) w hw
    rw [if_neg h8] at hw
    rcases sep_mem hw with rfl | ⟨t, ht, hw⟩
    · split <;> decide
    · obtain ⟨k, hx, rfl⟩ := List.mem_map.1 ht
      exact hkid x.op k hx w hw
theorem sep_ne {s : Wv} : ∀ {ts : List (List Wv)}, ts ≠ [] → (∀ t ∈ ts, t ≠ []) → sepW s ts ≠ []
  | [], h, _ => absurd rfl h
  | [t], _, h => by rw [sepW]; exact h t (List.mem_cons_self ..)
  | t :: u :: ts, _, h => by rw [sepW]; simp
theorem kid_ne {f : Nat} {op : Int} {k : Sc f} (h : toksW f k ≠ []) : kidW f op k ≠ [] := by
  unfold kidW
  split
  · simp
  · exact h
theorem toks_ne : ∀ (f : Nat) (x : Sc f) (d : Int), okS f x d = true → toksW f x ≠ []
  | 0, x, _, _ => nomatch x
  | f + 1, (x : Ns (Sc f)), d, h => by
    obtain ⟨_, hf, hk⟩ := wok_fits h
    rw [toksW_eq]
    repeat' split
    all_goals first
      | (simp; done)
      | (refine sep_ne ?_ ?_
         · intro e
           rw [List.map_eq_nil_iff] at e
           obtain ⟨hr, _⟩ := (fits_iff x).1 hf
           have := wfits_many hf (by omega)
           rw [e] at this
           simp at this
         · intro t ht
           obtain ⟨k, hx, rfl⟩ := List.mem_map.1 ht
           exact kid_ne (toks_ne f k (d - 1) (hk k hx)))
end
section
open Go.Lib
def sumB (s : List UInt8) : List (List UInt8) → List UInt8
  | [] => []
  | [t] => t
  | t :: u :: ts => t ++ (s ++ sumB s (u :: ts))
def brB (op k : Int) (t : List UInt8) : List UInt8 := if bracedW op k = true then [40, 32] ++ t ++ [32, 41] else t
def sepB (op : Int) : List UInt8 := if op = 7 then [32, 111, 114, 32] else [32, 97, 110, 100, 32]
def textB : (f : Nat) → Sc f → List UInt8
  | 0, x => nomatch x
  | f + 1, (x : Ns (Sc f)) =>
    if x.op = 1 then [97, 108, 108] else if x.op = 2 then [99, 97, 115, 101, 32] ++ x.name else if x.op = 3 then [115, 117, 98, 106, 101, 99, 116, 32] ++ x.name else if x.op = 4 then [99, 108, 97, 115, 115, 32] ++ x.name
    else if x.op = 5 then [116, 105, 109, 101, 32] ++ decDigits x.from_.toNat ++ [45] ++ decDigits x.to_.toNat
    else if x.op = 8 then [110, 111, 116, 32] ++ (match x.kids with | [] => [] | k :: _ => brB 8 (opS f k) (textB f k))
    else sumB (sepB x.op) (x.kids.map fun k => brB x.op (opS f k) (textB f k))
theorem textB_eq (f : Nat) (x : Ns (Sc f)) : textB (f + 1) x =
    if x.op = 1 then [97, 108, 108] else if x.op = 2 then [99, 97, 115, 101, 32] ++ x.name else if x.op = 3 then [115, 117, 98, 106, 101, 99, 116, 32] ++ x.name else if x.op = 4 then [99, 108, 97, 115, 115, 32] ++ x.name
    else if x.op = 5 then [116, 105, 109, 101, 32] ++ decDigits x.from_.toNat ++ [45] ++ decDigits x.to_.toNat
    else if x.op = 8 then [110, 111, 116, 32] ++ (match x.kids with | [] => [] | k :: _ => brB 8 (opS f k) (textB f k))
    else sumB (sepB x.op) (x.kids.map fun k => brB x.op (opS f k) (textB f k)) := rfl
theorem sumB_snoc (s : List UInt8) : ∀ (ts : List (List UInt8)) (t : List UInt8), ts ≠ [] → sumB s (ts ++ [t]) = sumB s ts ++ s ++ t
  | [], t, h => absurd rfl h
  | [a], t, _ => by simp [sumB]
  | a :: b :: ts, t, _ => by
    have ih := sumB_snoc s (b :: ts) t (by simp)
    show a ++ (s ++ sumB s (b :: ts ++ [t])) = a ++ (s ++ sumB s (b :: ts)) ++ s ++ t
    rw [ih]
    simp only [List.append_assoc]
theorem sumB_take {s : List UInt8} {ts : List (List UInt8)} {j : Nat} (hj : j < ts.length) : sumB s (ts.take (j + 1)) = (if j = 0 then [] else sumB s (ts.take j) ++ s) ++ ts[j] := by
  rw [List.take_add_one, List.getElem?_eq_getElem hj]
  by_cases h : j = 0
  · subst h
    rw [if_pos rfl]
    simp [sumB]
  · rw [if_neg h]
    have hne : ts.take j ≠ [] := fun e => by
      have := congrArg List.length e
      rw [List.length_take] at this
      simp at this
      rcases this with h1 | h1
      · exact h h1
      · rw [h1] at hj; simp at hj
    exact sumB_snoc s (ts.take j) ts[j] hne
/-! It is the words, with blanks between. -/
theorem joinW_app : ∀ (a b : List Wv), a ≠ [] → b ≠ [] → joinW (a ++ b) = joinW a ++ 32 :: joinW b
  | [], _, h, _ => absurd rfl h
  | [w], [], _, h => absurd rfl h
  | [w], v :: vs, _, _ => rfl
  | w :: v :: ws, b, _, hb => by
    have ih := joinW_app (v :: ws) b (by simp) hb
    show w ++ 32 :: joinW (v :: ws ++ b) = (w ++ 32 :: joinW (v :: ws)) ++ 32 :: joinW b
    rw [ih]
    simp
theorem joinW_sep {s : Wv} : ∀ (ts : List (List Wv)), (∀ t ∈ ts, t ≠ []) → joinW (sepW s ts) = sumB (32 :: s ++ [32]) (ts.map joinW)
  | [], _ => rfl
  | [t], _ => rfl
  | t :: u :: ts, h => by
    have ih := joinW_sep (s := s) (u :: ts) fun v hv => h v (List.mem_cons_of_mem _ hv)
    have hne : sepW s (u :: ts) ≠ [] := sep_ne (by simp) fun v hv => h v (List.mem_cons_of_mem _ hv)
    show joinW (t ++ s :: sepW s (u :: ts)) = joinW t ++ ((32 :: s ++ [32]) ++ sumB (32 :: s ++ [32]) ((u :: ts).map joinW))
    rw [joinW_app t (s :: sepW s (u :: ts)) (h t (List.mem_cons_self ..)) (by simp), ← ih]
    cases hq : sepW s (u :: ts) with
    | nil => exact absurd hq hne
    | cons v vs =>
      show joinW t ++ 32 :: (s ++ 32 :: joinW (v :: vs)) = _
      simp
theorem textB_is : ∀ (f : Nat) (x : Sc f) (d : Int), okS f x d = true → joinW (toksW f x) = textB f x
  | 0, x, _, _ => nomatch x
  | f + 1, (x : Ns (Sc f)), d, h => by
    obtain ⟨hd, hf, hk⟩ := wok_fits h
    have kid : ∀ op k, k ∈ x.kids → joinW (kidW f op k) = brB op (opS f k) (textB f k) ∧ kidW f op k ≠ [] := fun op k hx => by
      have hne := toks_ne f k _ (hk k hx)
      have ih := textB_is f k _ (hk k hx)
      refine ⟨?_, kid_ne hne⟩
      unfold kidW brB
      split
      · rw [← ih]
        cases hq : toksW f k with
        | nil => exact absurd hq hne
        | cons v vs =>
          have e := joinW_app (wOpen :: v :: vs) [wClose] (by simp) (by simp)
          show joinW (wOpen :: v :: vs ++ [wClose]) = _
          rw [e]
          show (wOpen ++ 32 :: joinW (v :: vs)) ++ 32 :: wClose = _
          simp [wOpen, wClose]
      · exact ih
    rw [toksW_eq, textB_eq]
    split
    · rfl
    split
    · rfl
    split
    · rfl
    split
    · rfl
    split
    · show wTime ++ 32 :: spanV x.from_ x.to_ = _
      unfold spanV wTime
      simp
    split
    · rename_i h8
      obtain ⟨k, e⟩ := fits_not hf h8
      rw [e]
      dsimp only
      obtain ⟨e1, e2⟩ := kid 8 k (by rw [e]; simp)
      rw [← e1]
      cases hq : kidW f 8 k with
      | nil => exact absurd hq e2
      | cons v vs => rfl
    · rw [joinW_sep _ fun t ht => by
        obtain ⟨k, hkm, rfl⟩ := List.mem_map.1 ht
        exact (kid _ k hkm).2]
      rw [List.map_map]
      congr 1
      · unfold sepB
        split <;> rfl
      · exact List.map_congr_left fun k hkm => (kid _ k hkm).1
/-! It is short. -/
theorem brB_len (op k : Int) (t : List UInt8) : (brB op k t).length ≤ t.length + 4 := by
  unfold brB
  split <;> simp
theorem sepB_len (op : Int) : (sepB op).length ≤ 5 := by
  unfold sepB
  split <;> simp
theorem sumB_len (s : List UInt8) (hs : s.length ≤ 5) : ∀ (ts : List (List UInt8)), (sumB s ts).length ≤ (ts.map fun t => t.length + 5).sum
  | [] => by simp [sumB]
  | [t] => by simp [sumB]
  | t :: u :: ts => by
    have ih := sumB_len s hs (u :: ts)
    show (t ++ (s ++ sumB s (u :: ts))).length ≤ _
    rw [List.length_append, List.length_append, List.map_cons, List.sum_cons]
    omega
theorem sum_take_le : ∀ (l : List Nat) (j : Nat), (l.take j).sum ≤ l.sum
  | [], j => by simp
  | a :: l, 0 => by simp
  | a :: l, j + 1 => by
    have := sum_take_le l j
    rw [List.take_succ_cons, List.sum_cons, List.sum_cons]
    omega
theorem sumB_some (s : List UInt8) (hs : s.length ≤ 5) (ts : List (List UInt8)) (j : Nat) : (sumB s (ts.take j)).length ≤ (ts.map fun t => t.length + 5).sum := by
  refine Nat.le_trans (sumB_len s hs (ts.take j)) ?_
  rw [List.map_take]
  exact sum_take_le _ j
theorem kidsB_sum (f : Nat) (op : Int) (d : Int) (hl : ∀ (x : Sc f), okS f x d = true → (textB f x).length + 9 ≤ 60 * nodesS f x) : ∀ (ks : List (Sc f)), (∀ k ∈ ks, okS f k d = true) → ((ks.map fun k => brB op (opS f k) (textB f k)).map fun t => t.length + 5).sum ≤ 60 * (ks.map (nodesS f)).sum
  | [], _ => by simp
  | k :: ks, h => by
    have h1 := kidsB_sum f op d hl ks fun u hu => h u (List.mem_cons_of_mem _ hu)
    have h2 := hl k (h k (List.mem_cons_self ..))
    have h3 := brB_len op (opS f k) (textB f k)
    simp only [List.map_cons, List.sum_cons]
    omega
theorem textB_len : ∀ (f : Nat) (x : Sc f) (d : Int), okS f x d = true → (textB f x).length + 9 ≤ 60 * nodesS f x
  | 0, x, _, _ => nomatch x
  | f + 1, (x : Ns (Sc f)), d, h => by
    obtain ⟨hd, hf, hk⟩ := wok_fits h
    have hs : ∀ (op : Int) (ks : List (Sc f)), (∀ k ∈ ks, (textB f k).length + 9 ≤ 60 * nodesS f k) → ((ks.map fun k => brB op (opS f k) (textB f k)).map fun t => t.length + 5).sum ≤ 60 * (ks.map (nodesS f)).sum := fun op ks => by
      induction ks with
      | nil => intro _; simp
      | cons k ks ih =>
        intro hh
        have h1 := ih fun u hu => hh u (List.mem_cons_of_mem _ hu)
        have h2 := hh k (List.mem_cons_self ..)
        have h3 := brB_len op (opS f k) (textB f k)
        simp only [List.map_cons, List.sum_cons]
        omega
    have hS := fun op => hs op x.kids fun k hx => textB_len f k (d - 1) (hk k hx)
    rw [textB_eq, nodesS_eq]
    have nm : (x.op = 2 ∨ x.op = 3 ∨ x.op = 4) → x.name.length ≤ 16 := fun hk => ((name_iff _).1 (fits_named hf hk).1).2.1
    split
    · simp; omega
    split
    · have := nm (by omega); simp; omega
    split
    · have := nm (by omega); simp; omega
    split
    · have := nm (by omega); simp; omega
    split
    · rename_i h5
      obtain ⟨a0, a1, a2, _⟩ := fits_time hf h5
      have := digits_len (k := x.from_.toNat) (by omega)
      have := digits_len (k := x.to_.toNat) (by omega)
      simp only [List.length_append, List.length_cons, List.length_nil]
      omega
    split
    · rename_i h8
      obtain ⟨k, e⟩ := fits_not hf h8
      have h1 := hS 8
      rw [e] at h1 ⊢
      simp only [List.map_cons, List.map_nil, List.sum_cons, List.sum_nil, List.length_append, List.length_cons, List.length_nil] at h1 ⊢
      omega
    · have h1 := hS x.op
      have h2 := sumB_len (sepB x.op) (sepB_len _) (x.kids.map fun k => brB x.op (opS f k) (textB f k))
      omega
end
end Go.Proofs.YtjecjlhofnnnpaaGreatDoor
