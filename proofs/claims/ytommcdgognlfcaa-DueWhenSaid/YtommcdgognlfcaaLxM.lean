/-
  Plain mathematics of layer 16 (lex): a text's words, and where the first one that is wrong begins; that they stand in order; two texts, a line feed between. No program. No condition.
-/
import Derived.Test.YtommcdgognlfcaaSpM
import Derived.Test.YtommcdgognlfcaaNamM
namespace Go.Proofs.Ytommcdgognlfcaa
set_option maxRecDepth 100000
set_option linter.unusedVariables false

/-- A word: its kind, its text, its number, and where it begins. -/
structure Tk where
  kind : Nat
  text : List UInt8
  n : Int
  at_ : Nat

def lowC (b : Nat) : Bool := decide (97 ≤ b ∧ b ≤ 122)
def digC (b : Nat) : Bool := decide (48 ≤ b ∧ b ≤ 57)
def wordC (b : Nat) : Bool := lowC b || digC b || decide (b = 45) || decide (b = 95)
def blankC (b : Nat) : Bool := decide (b = 32) || decide (b = 10) || decide (b = 9)

/-- How many bytes are passed over: within a remark, or not. -/
def skipN : Bool → List UInt8 → Nat
  | _, [] => 0
  | true, b :: l => if b.toNat = 10 then skipN false l + 1 else skipN true l + 1
  | false, b :: l => if b.toNat = 35 then skipN true l + 1 else if blankC b.toNat = true then skipN false l + 1 else 0

/-- How many bytes at the front are of a sort. -/
def takeN (p : Nat → Bool) : List UInt8 → Nat
  | [] => 0
  | b :: l => if p b.toNat = true then takeN p l + 1 else 0

/-- What is read at a place: kind, text, number, how many bytes; or an error. -/
structure Wd where
  kind : Nat
  text : List UInt8
  n : Int
  size : Nat
  e : Int

def badW (e : Int) : Wd := ⟨0, [], 0, 0, e⟩
def noQ (b : Nat) : Bool := decide (b ≠ 34)

def wordW (r : List UInt8) : Wd := ⟨1, r.take (takeN wordC r), 0, takeN wordC r, 0⟩
def quoteW (l : List UInt8) : Wd := if takeN noQ l < l.length ∧ nameS (l.take (takeN noQ l)) = true then ⟨2, l.take (takeN noQ l), 0, takeN noQ l + 2, 0⟩ else badW 2
def spanE (r : List UInt8) : List UInt8 := r.take (takeN digC r + 1)
def spanW (r : List UInt8) : Wd := if (parseD (spanE r)).2 = 0 then ⟨3, spanE r, (parseD (spanE r)).1, (spanE r).length, 0⟩ else badW (parseD (spanE r)).2

/-- The word at the front. -/
def oneC (c : UInt8) (l : List UInt8) : Wd :=
  if c.toNat = 40 then ⟨4, [c], 0, 1, 0⟩ else if c.toNat = 41 then ⟨5, [c], 0, 1, 0⟩ else if c.toNat = 59 then ⟨6, [c], 0, 1, 0⟩
  else if lowC c.toNat = true then wordW (c :: l) else if c.toNat = 34 then quoteW l else if digC c.toNat = true then spanW (c :: l) else badW 2
def oneW : List UInt8 → Wd
  | [] => badW 2
  | c :: l => oneC c l
theorem oneW_cons (c : UInt8) (l : List UInt8) : oneW (c :: l) = oneC c l := rfl

/-- The words of r, which begins at a place; where it ends, or where the first wrong one begins; the error. -/
def lexL : Nat → Nat → List UInt8 → List Tk × Nat × Int
  | 0, a, r => ([], a, 0)
  | f + 1, a, r =>
    if r.drop (skipN false r) = [] then ([], a + skipN false r, 0)
    else if (oneW (r.drop (skipN false r))).e ≠ 0 then ([], a + skipN false r, (oneW (r.drop (skipN false r))).e)
    else
      (⟨(oneW (r.drop (skipN false r))).kind, (oneW (r.drop (skipN false r))).text, (oneW (r.drop (skipN false r))).n, a + skipN false r⟩ ::
        (lexL f (a + skipN false r + (oneW (r.drop (skipN false r))).size) ((r.drop (skipN false r)).drop (oneW (r.drop (skipN false r))).size)).1,
        (lexL f (a + skipN false r + (oneW (r.drop (skipN false r))).size) ((r.drop (skipN false r)).drop (oneW (r.drop (skipN false r))).size)).2)

/-- All the words of a text. -/
def allS (s : List UInt8) : List Tk × Nat × Int :=
  if 600 < s.length then ([], 0, 3) else if (lexL (s.length + 1) 0 s).2.2 = 0 then lexL (s.length + 1) 0 s else ([], (lexL (s.length + 1) 0 s).2)

/-! How far. -/
theorem skip_le : ∀ (b : Bool) (l : List UInt8), skipN b l ≤ l.length
  | _, [] => by cases ‹Bool› <;> simp [skipN]
  | true, b :: l => by
    have h1 := skip_le true l
    have h2 := skip_le false l
    rw [skipN]
    split <;> simp <;> omega
  | false, b :: l => by
    have h1 := skip_le true l
    have h2 := skip_le false l
    rw [skipN]
    split
    · simp; omega
    · split <;> simp; omega

theorem takeN_le (p : Nat → Bool) : ∀ l : List UInt8, takeN p l ≤ l.length
  | [] => by simp [takeN]
  | b :: l => by
    have := takeN_le p l
    rw [takeN]
    split <;> simp; omega

/-- A byte of the sort: it is passed. -/
theorem takeN_step (p : Nat → Bool) : ∀ (l : List UInt8) (k : Nat) (x : UInt8), l[k]? = some x → k ≤ takeN p l → p x.toNat = true → k + 1 ≤ takeN p l
  | [], k, x, h, _, _ => by simp at h
  | b :: l, 0, x, h, _, hp => by
    simp only [List.getElem?_cons_zero, Option.some.injEq] at h
    subst h
    rw [takeN, if_pos hp]
    omega
  | b :: l, k + 1, x, h, hk, hp => by
    rw [takeN] at hk ⊢
    by_cases hb : p b.toNat = true
    · rw [if_pos hb] at hk ⊢
      have := takeN_step p l k x (by simpa using h) (by omega) hp
      omega
    · rw [if_neg hb] at hk
      omega

/-- One that is not: there it ends. -/
theorem takeN_stop (p : Nat → Bool) : ∀ (l : List UInt8) (k : Nat) (x : UInt8), l[k]? = some x → k ≤ takeN p l → p x.toNat = false → takeN p l = k
  | [], k, x, h, _, _ => by simp at h
  | b :: l, 0, x, h, _, hp => by
    simp only [List.getElem?_cons_zero, Option.some.injEq] at h
    subst h
    rw [takeN, if_neg (by rw [hp]; decide)]
  | b :: l, k + 1, x, h, hk, hp => by
    rw [takeN] at hk ⊢
    by_cases hb : p b.toNat = true
    · rw [if_pos hb] at hk ⊢
      have := takeN_stop p l k x (by simpa using h) (by omega) hp
      omega
    · rw [if_neg hb] at hk
      omega
theorem takeN_end (p : Nat → Bool) (l : List UInt8) (k : Nat) (hk : k ≤ takeN p l) (h : l.length ≤ k) : takeN p l = k := by
  have := takeN_le p l
  omega
/-- All that is passed is of the sort, and what stops is not. -/
theorem takeN_in (p : Nat → Bool) : ∀ (l : List UInt8) (k : Nat) (x : UInt8), l[k]? = some x → k < takeN p l → p x.toNat = true
  | [], k, x, h, _ => by simp at h
  | b :: l, k, x, h, hk => by
    rw [takeN] at hk
    by_cases hb : p b.toNat = true
    · rw [if_pos hb] at hk
      cases k with
      | zero => simp only [List.getElem?_cons_zero, Option.some.injEq] at h; subst h; exact hb
      | succ k => exact takeN_in p l k x (by simpa using h) (by omega)
    · rw [if_neg hb] at hk; omega
theorem takeN_out (p : Nat → Bool) (l : List UInt8) (x : UInt8) (h : l[takeN p l]? = some x) : p x.toNat = false := by
  cases hp : p x.toNat with
  | false => rfl
  | true => exact absurd (takeN_step p l _ x h (Nat.le_refl _) hp) (by omega)
theorem takeN_append (p : Nat → Bool) (l m : List UInt8) (h : takeN p l < l.length) : takeN p (l ++ m) = takeN p l := by
  obtain ⟨x, hx⟩ : ∃ x, l[takeN p l]? = some x := ⟨_, List.getElem?_eq_getElem h⟩
  have ho := takeN_out p l x hx
  have hle : takeN p l ≤ takeN p (l ++ m) := by
    clear ho hx h
    induction l with
    | nil => simp [takeN]
    | cons b l ih => rw [List.cons_append, takeN, takeN]; split <;> omega
  exact takeN_stop p (l ++ m) _ x (by rw [List.getElem?_append_left h]; exact hx) hle ho
/-- All of l, and then one that is not of the sort. -/
theorem takeN_wall (p : Nat → Bool) (l m : List UInt8) (c : UInt8) (hc : p c.toNat = false) : takeN p (l ++ c :: m) = takeN p l := by
  induction l with
  | nil => simp [takeN, hc]
  | cons b l ih => rw [List.cons_append, takeN, takeN, ih]

/-! What is passed over. -/
theorem skip_at (r : List UInt8) (h : r.drop (skipN false r) ≠ []) : ∃ c l, r.drop (skipN false r) = c :: l ∧ c.toNat ≠ 35 ∧ blankC c.toNat = false := by
  have key : ∀ (b : Bool) (r : List UInt8), r.drop (skipN b r) ≠ [] → ∃ c l, r.drop (skipN b r) = c :: l ∧ c.toNat ≠ 35 ∧ blankC c.toNat = false := by
    intro b r
    induction r generalizing b with
    | nil => intro h; simp at h
    | cons c l ih =>
      cases b with
      | true =>
        rw [skipN]
        by_cases h1 : c.toNat = 10
        · rw [if_pos h1, List.drop_succ_cons]; exact ih false
        · rw [if_neg h1, List.drop_succ_cons]; exact ih true
      | false =>
        rw [skipN]
        by_cases h1 : c.toNat = 35
        · rw [if_pos h1, List.drop_succ_cons]; exact ih true
        · rw [if_neg h1]
          by_cases h2 : blankC c.toNat = true
          · rw [if_pos h2, List.drop_succ_cons]; exact ih false
          · rw [if_neg h2, List.drop_zero]
            exact fun _ => ⟨c, l, rfl, h1, by simpa using h2⟩
  exact key false r h
/-- Blanks ahead. -/
theorem skip_blank : ∀ r : List UInt8, skipN false r = takeN blankC r + skipN false (r.drop (takeN blankC r))
  | [] => rfl
  | b :: l => by
    by_cases h : blankC b.toNat = true
    · have h35 : ¬ b.toNat = 35 := by
        intro e
        rw [e] at h
        exact absurd h (by decide)
      have ih := skip_blank l
      rw [skipN, if_neg h35, if_pos h, takeN, if_pos h, List.drop_succ_cons]
      omega
    · rw [takeN, if_neg h, List.drop_zero, Nat.zero_add]
def noL (b : Nat) : Bool := decide (b ≠ 10)
/-- A remark ahead. -/
theorem skip_remark : ∀ r : List UInt8, skipN true r = takeN noL r + skipN false (r.drop (takeN noL r))
  | [] => rfl
  | b :: l => by
    by_cases h : b.toNat = 10
    · have hn : noL b.toNat = false := by rw [h]; decide
      rw [takeN, if_neg (by rw [hn]; decide), List.drop_zero, skipN, if_pos h, skipN, if_neg (by omega), if_pos (by rw [h]; decide)]
      omega
    · have hn : noL b.toNat = true := decide_eq_true h
      have ih := skip_remark l
      rw [skipN, if_neg h, takeN, if_pos hn, List.drop_succ_cons]
      omega
theorem skip_hash (c : UInt8) (l : List UInt8) (h : c.toNat = 35) : skipN false (c :: l) = takeN noL (c :: l) + skipN false ((c :: l).drop (takeN noL (c :: l))) := by
  have hr := skip_remark (c :: l)
  rw [skipN, if_neg (by omega)] at hr
  rw [skipN, if_pos h]
  exact hr
theorem skip_none (c : UInt8) (l : List UInt8) (h : c.toNat ≠ 35) (hb : blankC c.toNat = false) : skipN false (c :: l) = 0 := by
  rw [skipN, if_neg h, if_neg (by rw [hb]; decide)]

/-! The word at the front. -/
theorem parse_pos {l : List UInt8} (h : (parseD l).2 = 0) : 1 ≤ l.length := by
  cases l with
  | nil => exact absurd h (by decide)
  | cons a l => simp
theorem spanE_len (r : List UInt8) : (spanE r).length = min (takeN digC r + 1) r.length := by unfold spanE; rw [List.length_take]
theorem one_size {r : List UInt8} (h : (oneW r).e = 0) : 1 ≤ (oneW r).size ∧ (oneW r).size ≤ r.length ∧ (oneW r).size = (oneW r).text.length + (if (oneW r).kind = 2 then 2 else 0) ∧ 1 ≤ (oneW r).kind ∧ (oneW r).kind ≤ 6 ∧ 1 ≤ (oneW r).text.length := by
  cases r with
  | nil => exact absurd h (by decide)
  | cons c l =>
    rw [oneW_cons] at h ⊢
    unfold oneC at h ⊢
    by_cases h1 : c.toNat = 40
    · simp [h1]
    by_cases h2 : c.toNat = 41
    · simp [h2]
    by_cases h3 : c.toNat = 59
    · simp [h3]
    rw [if_neg h1, if_neg h2, if_neg h3] at h ⊢
    by_cases h4 : lowC c.toNat = true
    · rw [if_pos h4] at h ⊢
      have hw : wordC c.toNat = true := by unfold wordC; rw [h4]; rfl
      have hle := takeN_le wordC (c :: l)
      have h1 : 1 ≤ takeN wordC (c :: l) := by rw [takeN, if_pos hw]; omega
      unfold wordW
      refine ⟨h1, hle, ?_, Nat.le_refl _, (show (1:Nat) ≤ 6 by decide), ?_⟩
      · simp only [List.length_take]; rw [if_neg (by decide)]; omega
      · simp only [List.length_take]; omega
    · rw [if_neg h4] at h ⊢
      by_cases h5 : c.toNat = 34
      · rw [if_pos h5] at h ⊢
        unfold quoteW at h ⊢
        by_cases h6 : takeN noQ l < l.length ∧ nameS (l.take (takeN noQ l)) = true
        · rw [if_pos h6]
          obtain ⟨n1, n2, _⟩ := (name_iff _).1 h6.2
          refine ⟨by show 1 ≤ _ + 2; omega, by show _ + 2 ≤ _; simp; omega, ?_, (show (1:Nat) ≤ 2 by decide), (show (2:Nat) ≤ 6 by decide), n1⟩
          rw [if_pos rfl]
          show _ + 2 = _
          simp only [List.length_take]
          omega
        · rw [if_neg h6] at h; exact absurd h (by decide)
      · rw [if_neg h5] at h ⊢
        by_cases h6 : digC c.toNat = true
        · rw [if_pos h6] at h ⊢
          unfold spanW at h ⊢
          by_cases h7 : (parseD (spanE (c :: l))).2 = 0
          · rw [if_pos h7]
            have hp := parse_pos h7
            have hl := spanE_len (c :: l)
            refine ⟨hp, by show (spanE _).length ≤ _; omega, ?_, (show (1:Nat) ≤ 3 by decide), (show (3:Nat) ≤ 6 by decide), hp⟩
            rw [if_neg (show ¬ (3:Nat) = 2 by decide)]
            rfl
          · rw [if_neg h7] at h; exact absurd h h7
        · rw [if_neg h6] at h; exact absurd h (by decide)

/-! The words. -/
theorem lex_end {f a : Nat} {r : List UInt8} (h : r.drop (skipN false r) = []) : lexL (f + 1) a r = ([], a + skipN false r, 0) := by rw [lexL, if_pos h]
theorem lex_bad {f a : Nat} {r : List UInt8} (h : r.drop (skipN false r) ≠ []) (he : (oneW (r.drop (skipN false r))).e ≠ 0) : lexL (f + 1) a r = ([], a + skipN false r, (oneW (r.drop (skipN false r))).e) := by rw [lexL, if_neg h, if_pos he]
theorem lex_one {f a : Nat} {r : List UInt8} (h : r.drop (skipN false r) ≠ []) (he : (oneW (r.drop (skipN false r))).e = 0) : lexL (f + 1) a r =
    (⟨(oneW (r.drop (skipN false r))).kind, (oneW (r.drop (skipN false r))).text, (oneW (r.drop (skipN false r))).n, a + skipN false r⟩ ::
        (lexL f (a + skipN false r + (oneW (r.drop (skipN false r))).size) ((r.drop (skipN false r)).drop (oneW (r.drop (skipN false r))).size)).1,
        (lexL f (a + skipN false r + (oneW (r.drop (skipN false r))).size) ((r.drop (skipN false r)).drop (oneW (r.drop (skipN false r))).size)).2) := by rw [lexL, if_neg h, if_neg (fun h => h he)]

theorem drop_less {r : List UInt8} (h : r.drop (skipN false r) ≠ []) (he : (oneW (r.drop (skipN false r))).e = 0) : ((r.drop (skipN false r)).drop (oneW (r.drop (skipN false r))).size).length < r.length := by
  have h1 := one_size he
  have h2 := skip_le false r
  rw [List.length_drop, List.length_drop]
  rw [List.length_drop] at h1
  omega

/-- More fuel changes nothing. -/
theorem lex_fuel : ∀ (f g a : Nat) (r : List UInt8), r.length < f → r.length < g → lexL f a r = lexL g a r
  | 0, _, _, _, h, _ => absurd h (Nat.not_lt_zero _)
  | _, 0, _, _, _, h => absurd h (Nat.not_lt_zero _)
  | f + 1, g + 1, a, r, hf, hg => by
    by_cases h : r.drop (skipN false r) = []
    · rw [lex_end h, lex_end h]
    · by_cases he : (oneW (r.drop (skipN false r))).e = 0
      · have hl := drop_less h he
        rw [lex_one h he, lex_one h he, lex_fuel f g _ _ (by omega) (by omega)]
      · rw [lex_bad h he, lex_bad h he]

/-- Where the words are wrong, that is within the text; else it ends where the text does. -/
theorem lex_place : ∀ (f a : Nat) (r : List UInt8), r.length < f → a ≤ (lexL f a r).2.1 ∧ (lexL f a r).2.1 ≤ a + r.length ∧ ((lexL f a r).2.2 = 0 → (lexL f a r).2.1 = a + r.length)
  | 0, _, _, h => absurd h (Nat.not_lt_zero _)
  | f + 1, a, r, hf => by
    have hs := skip_le false r
    by_cases h : r.drop (skipN false r) = []
    · rw [lex_end h]
      have := List.drop_eq_nil_iff.1 h
      exact ⟨by show a ≤ a + _; omega, by show a + _ ≤ _; omega, fun _ => by show a + _ = _; omega⟩
    · by_cases he : (oneW (r.drop (skipN false r))).e = 0
      · have hl := drop_less h he
        rw [lex_one h he]
        obtain ⟨h1, h2, h3⟩ := lex_place f (a + skipN false r + (oneW (r.drop (skipN false r))).size) ((r.drop (skipN false r)).drop (oneW (r.drop (skipN false r))).size) (by omega)
        have o1 := one_size he
        rw [List.length_drop] at o1
        rw [List.length_drop, List.length_drop] at h2 h3
        exact ⟨by show a ≤ (lexL _ _ _).2.1; omega, by show (lexL _ _ _).2.1 ≤ _; omega, fun e => by have := h3 e; show (lexL _ _ _).2.1 = _; omega⟩
      · rw [lex_bad h he]
        exact ⟨by show a ≤ a + _; omega, by show a + _ ≤ _; omega, fun e => absurd e he⟩

/-- How many words there are. -/
theorem lex_count : ∀ (f a : Nat) (r : List UInt8), r.length < f → (lexL f a r).1.length ≤ r.length
  | 0, _, _, h => absurd h (Nat.not_lt_zero _)
  | f + 1, a, r, hf => by
    by_cases h : r.drop (skipN false r) = []
    · rw [lex_end h]; simp
    · by_cases he : (oneW (r.drop (skipN false r))).e = 0
      · have hl := drop_less h he
        rw [lex_one h he]
        have := lex_count f (a + skipN false r + (oneW (r.drop (skipN false r))).size) ((r.drop (skipN false r)).drop (oneW (r.drop (skipN false r))).size) (by omega)
        show (_ :: _).length ≤ _
        rw [List.length_cons]
        omega
      · rw [lex_bad h he]; simp

/-- Each word's text is no longer than the text. -/
theorem lex_text : ∀ (f a : Nat) (r : List UInt8) (t : Tk), r.length < f → t ∈ (lexL f a r).1 → t.text.length ≤ r.length ∧ t.at_ ≤ a + r.length
  | 0, _, _, _, h, _ => absurd h (Nat.not_lt_zero _)
  | f + 1, a, r, t, hf, ht => by
    by_cases h : r.drop (skipN false r) = []
    · rw [lex_end h] at ht; cases ht
    · by_cases he : (oneW (r.drop (skipN false r))).e = 0
      · have hl := drop_less h he
        have o1 := one_size he
        rw [List.length_drop] at o1
        have hs := skip_le false r
        rw [lex_one h he] at ht
        rcases List.mem_cons.1 ht with rfl | ht
        · refine ⟨?_, ?_⟩
          · show (oneW _).text.length ≤ _
            omega
          · show a + _ ≤ _
            omega
        · obtain ⟨h1, h2⟩ := lex_text f _ _ t (by omega) ht
          rw [List.length_drop, List.length_drop] at h1 h2
          exact ⟨by omega, by omega⟩
      · rw [lex_bad h he] at ht; cases ht
end Go.Proofs.Ytommcdgognlfcaa
