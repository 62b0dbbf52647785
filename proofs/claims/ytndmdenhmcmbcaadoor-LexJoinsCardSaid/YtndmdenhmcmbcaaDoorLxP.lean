/-
  Plain mathematics of layer 16 (lex), as the program goes through a text: what is led to from a place, and what is cut off a word. No program. No condition.
-/
import Derived.Test.YtndmdenhmcmbcaaDoorLxN
import Derived.Lib.TrimByte
namespace Go.Proofs.YtndmdenhmcmbcaaDoor
set_option maxRecDepth 100000
set_option linter.unusedVariables false

theorem drop_clean (c : UInt8) (l : List UInt8) (h : ∀ b ∈ l, b ≠ c) : l.dropWhile (· == c) = l := by
  cases l with
  | nil => rfl
  | cons b l =>
    rw [List.dropWhile_cons]
    have : (b == c) = false := by simpa using h b (List.mem_cons_self ..)
    rw [this]
    rfl
theorem trim_clean (c : UInt8) (l : List UInt8) (h : ∀ b ∈ l, b ≠ c) : Lib.trimB l c = l := by
  unfold Lib.trimB Lib.trimRightB Lib.trimLeftB
  rw [drop_clean c l.reverse (fun b hb => h b (List.mem_reverse.1 hb)), List.reverse_reverse, drop_clean c l h]
theorem trim_quoted (c : UInt8) (q : List UInt8) (hq : 1 ≤ q.length) (h : ∀ b ∈ q, b ≠ c) : Lib.trimB (c :: (q ++ [c])) c = q := by
  unfold Lib.trimB Lib.trimRightB Lib.trimLeftB
  have e1 : (c :: (q ++ [c])).reverse = c :: (q.reverse ++ [c]) := by simp
  have e2 : (q.reverse ++ [c]).dropWhile (· == c) = q.reverse ++ [c] := by
    cases hr : q.reverse with
    | nil => have := congrArg List.length hr; simp at this; subst this; simp at hq
    | cons x r =>
      have hx : x ∈ q := List.mem_reverse.1 (by rw [hr]; exact List.mem_cons_self ..)
      have : (x == c) = false := by simpa using h x hx
      rw [List.cons_append, List.dropWhile_cons, this]
      rfl
  rw [e1, List.dropWhile_cons, if_pos (by simp), e2, List.reverse_append, List.reverse_reverse]
  show List.dropWhile (· == c) (c :: q) = q
  rw [List.dropWhile_cons, if_pos (by simp), drop_clean c q h]
theorem takeN_all (p : Nat → Bool) (l : List UInt8) : ∀ b ∈ l.take (takeN p l), p b.toNat = true := by
  intro b hb
  obtain ⟨i, hi, e⟩ := List.mem_iff_getElem.1 hb
  rw [List.length_take] at hi
  refine takeN_in p l i b ?_ (by omega)
  rw [← e, List.getElem_take]
  exact List.getElem?_eq_getElem _
theorem ne_quote {b : UInt8} (h : b.toNat ≠ 34) : b ≠ 34 := fun e => h (by rw [e]; rfl)
theorem word_ne {b : UInt8} (h : wordC b.toNat = true) : b ≠ 34 := ne_quote fun e => by rw [e] at h; exact absurd h (by decide)
theorem dig_ne {b : UInt8} (h : digC b.toNat = true) : b ≠ 34 := ne_quote fun e => by rw [e] at h; exact absurd h (by decide)
theorem okc_ne {b : UInt8} (h : okc b.toNat = true) : b ≠ 34 := ne_quote fun e => by rw [e] at h; exact absurd h (by decide)
theorem unit_ne {b : UInt8} (h : unitD b.toNat ≠ 0) : b ≠ 34 := ne_quote fun e => by rw [e] at h; exact h (by decide)

theorem quote_end {l : List UInt8} (h : takeN noQ l < l.length) : (34 :: l).take (takeN noQ l + 2) = 34 :: (l.take (takeN noQ l) ++ [34]) := by
  obtain ⟨x, hx⟩ : ∃ x, l[takeN noQ l]? = some x := ⟨_, List.getElem?_eq_getElem h⟩
  have ho := takeN_out noQ l x hx
  have hx34 : x = 34 := by
    have : x.toNat = 34 := by simpa [noQ] using ho
    exact UInt8.toNat_inj.1 this
  rw [show takeN noQ l + 2 = (takeN noQ l + 1) + 1 by omega, List.take_succ_cons, List.take_add_one, hx, hx34]
  rfl
/-- Without the quotes about it, a word is its text. -/
theorem one_trim {c : UInt8} {l : List UInt8} (h : (oneC c l).e = 0) : Lib.trimB ((c :: l).take (oneC c l).size) 34 = (oneC c l).text := by
  unfold oneC at h ⊢
  by_cases h1 : c.toNat = 40
  · rw [if_pos h1]
    exact trim_clean 34 [c] fun b hb => by rw [List.mem_singleton.1 hb]; exact ne_quote (by omega)
  rw [if_neg h1] at h ⊢
  by_cases h2 : c.toNat = 41
  · rw [if_pos h2]
    exact trim_clean 34 [c] fun b hb => by rw [List.mem_singleton.1 hb]; exact ne_quote (by omega)
  rw [if_neg h2] at h ⊢
  by_cases h3 : c.toNat = 59
  · rw [if_pos h3]
    exact trim_clean 34 [c] fun b hb => by rw [List.mem_singleton.1 hb]; exact ne_quote (by omega)
  rw [if_neg h3] at h ⊢
  by_cases h4 : lowC c.toNat = true
  · rw [if_pos h4]
    unfold wordW
    exact trim_clean 34 _ fun b hb => word_ne (takeN_all wordC _ b hb)
  rw [if_neg h4] at h ⊢
  by_cases h5 : c.toNat = 34
  · rw [if_pos h5] at h ⊢
    unfold quoteW at h ⊢
    by_cases h6 : takeN noQ l < l.length ∧ nameS (l.take (takeN noQ l)) = true
    · rw [if_pos h6]
      have hc : c = 34 := UInt8.toNat_inj.1 h5
      obtain ⟨n1, n2, n3⟩ := (name_iff _).1 h6.2
      rw [hc]
      show Lib.trimB ((34 :: l).take (takeN noQ l + 2)) 34 = _
      rw [quote_end h6.1, trim_quoted 34 _ n1 fun b hb => okc_ne (n3 b hb)]
    · rw [if_neg h6] at h; exact absurd h (by decide)
  rw [if_neg h5] at h ⊢
  by_cases h6 : digC c.toNat = true
  · rw [if_pos h6] at h ⊢
    unfold spanW at h ⊢
    by_cases h7 : (parseD (spanE (c :: l))).2 = 0
    · rw [if_pos h7]
      have hr := span_room h7
      have e : (c :: l).take (spanE (c :: l)).length = spanE (c :: l) := by rw [spanE_len]; unfold spanE; congr 1; omega
      show Lib.trimB ((c :: l).take (spanE (c :: l)).length) 34 = spanE (c :: l)
      rw [e]
      obtain ⟨u, hu, hun⟩ := parse_unit h7
      refine trim_clean 34 _ fun b hb => ?_
      have es : spanE (c :: l) = (c :: l).take (takeN digC (c :: l)) ++ [(c :: l)[takeN digC (c :: l)]] := by
        unfold spanE
        rw [List.take_succ_eq_append_getElem hr]
      have el : (c :: l)[takeN digC (c :: l)] = u := by
        rw [es, List.getLast?_append] at hu
        simpa using hu
      rw [es] at hb
      rcases List.mem_append.1 hb with hb | hb
      · exact dig_ne (takeN_all digC _ b hb)
      · rw [List.mem_singleton.1 hb, el]
        exact unit_ne hun
    · rw [if_neg h7] at h; exact absurd h h7
  · rw [if_neg h6] at h; exact absurd h (by decide)

/-! What is led to. -/
/-- From a place on, with some words found, all that is told is what All tells. -/
def Lead (s : List UInt8) (acc : List Tk) (i : Nat) : Prop :=
  i ≤ s.length ∧ lexL (s.length + 1) 0 s = (acc ++ (lexL (s.length + 1) i (s.drop i)).1, (lexL (s.length + 1) i (s.drop i)).2)
theorem lead_zero (s : List UInt8) : Lead s [] 0 := ⟨Nat.zero_le _, by rw [List.drop_zero]; rfl⟩
theorem lex_move {f a b : Nat} {r q : List UInt8} (h1 : a + skipN false r = b + skipN false q) (h2 : r.drop (skipN false r) = q.drop (skipN false q)) : lexL (f + 1) a r = lexL (f + 1) b q := by
  rw [lexL, lexL, h1, h2]
theorem lead_move {s : List UInt8} {acc : List Tk} {i j : Nat} (h : Lead s acc i) (hj : j ≤ s.length) (e : i + skipN false (s.drop i) = j + skipN false (s.drop j)) : Lead s acc j := by
  refine ⟨hj, ?_⟩
  rw [h.2, lex_move (f := s.length) (a := i) (b := j) e (by rw [List.drop_drop, List.drop_drop, e])]
theorem lead_blank {s : List UInt8} {acc : List Tk} {i : Nat} (h : Lead s acc i) : Lead s acc (i + takeN blankC (s.drop i)) := by
  have hle := takeN_le blankC (s.drop i)
  have hi := h.1
  rw [List.length_drop] at hle
  refine lead_move h (by omega) ?_
  have e := skip_blank (s.drop i)
  rw [List.drop_drop] at e
  omega
theorem lead_hash {s : List UInt8} {acc : List Tk} {i : Nat} (h : Lead s acc i) {c : UInt8} {l : List UInt8} (hd : s.drop i = c :: l) (hc : c.toNat = 35) : Lead s acc (i + takeN noL (s.drop i)) := by
  have hle := takeN_le noL (s.drop i)
  have hi := h.1
  rw [List.length_drop] at hle
  refine lead_move h (by omega) ?_
  have e := skip_hash c l hc
  rw [← hd, List.drop_drop] at e
  omega
theorem lead_end {s : List UInt8} {acc : List Tk} (h : Lead s acc s.length) : lexL (s.length + 1) 0 s = (acc, s.length, 0) := by
  rw [h.2, List.drop_length, lex_end (by simp [skipN])]
  simp [skipN]
theorem skip_here {s : List UInt8} {i : Nat} {c : UInt8} {l : List UInt8} (hd : s.drop i = c :: l) (hc : c.toNat ≠ 35) (hb : blankC c.toNat = false) : skipN false (s.drop i) = 0 := by rw [hd]; exact skip_none c l hc hb
theorem lead_bad {s : List UInt8} {acc : List Tk} {i : Nat} (h : Lead s acc i) {c : UInt8} {l : List UInt8} (hd : s.drop i = c :: l) (hc : c.toNat ≠ 35) (hb : blankC c.toNat = false) (he : (oneC c l).e ≠ 0) :
    (lexL (s.length + 1) 0 s).2 = (i, (oneC c l).e) := by
  have h0 := skip_here hd hc hb
  rw [h.2, lex_bad (by rw [h0, List.drop_zero, hd]; simp) (by rw [h0, List.drop_zero, hd, oneW_cons]; exact he), h0, List.drop_zero, hd, oneW_cons]
  rfl
theorem lead_tok {s : List UInt8} {acc : List Tk} {i : Nat} (h : Lead s acc i) {c : UInt8} {l : List UInt8} (hd : s.drop i = c :: l) (hc : c.toNat ≠ 35) (hb : blankC c.toNat = false) (he : (oneC c l).e = 0) :
    Lead s (acc ++ [⟨(oneC c l).kind, (oneC c l).text, (oneC c l).n, i⟩]) (i + (oneC c l).size) := by
  have h0 := skip_here hd hc hb
  have o1 := one_size (r := c :: l) (by rw [oneW_cons]; exact he)
  rw [oneW_cons] at o1
  have hl : (c :: l).length = s.length - i := by rw [← hd, List.length_drop]
  have hi := h.1
  refine ⟨by omega, ?_⟩
  have hne : (s.drop i).drop (skipN false (s.drop i)) ≠ [] := by rw [h0, List.drop_zero, hd]; simp
  have hone : (oneW ((s.drop i).drop (skipN false (s.drop i)))).e = 0 := by rw [h0, List.drop_zero, hd, oneW_cons]; exact he
  have hst := lex_one (f := s.length) (a := i) hne hone
  rw [h0, List.drop_zero] at hst
  have ed : oneW (s.drop i) = oneC c l := by rw [hd, oneW_cons]
  rw [ed, List.drop_drop, Nat.add_zero] at hst
  have hf := lex_fuel s.length (s.length + 1) (i + (oneC c l).size) (s.drop (i + (oneC c l).size)) (by rw [List.length_drop]; omega) (by rw [List.length_drop]; omega)
  have e0 : i + 0 = i := rfl
  rw [e0] at hst
  rw [h.2, hst, hf, List.append_assoc]
  rfl

theorem all_short {s : List UInt8} (h : s.length ≤ 600) : allS s = if (lexL (s.length + 1) 0 s).2.2 = 0 then lexL (s.length + 1) 0 s else ([], (lexL (s.length + 1) 0 s).2) := by
  unfold allS
  rw [if_neg (by omega)]
theorem all_long {s : List UInt8} (h : 600 < s.length) : allS s = ([], 0, 3) := by
  unfold allS
  rw [if_pos h]
theorem all_done {s : List UInt8} {acc : List Tk} (h6 : s.length ≤ 600) (h : Lead s acc s.length) : allS s = (acc, s.length, 0) := by
  rw [all_short h6, lead_end h, if_pos rfl]
theorem all_bad {s : List UInt8} {acc : List Tk} {i : Nat} (h6 : s.length ≤ 600) (h : Lead s acc i) {c : UInt8} {l : List UInt8} (hd : s.drop i = c :: l) (hc : c.toNat ≠ 35) (hb : blankC c.toNat = false) (he : (oneC c l).e ≠ 0) :
    allS s = ([], i, (oneC c l).e) := by
  have := lead_bad h hd hc hb he
  rw [all_short h6, this, if_neg he]
theorem lead_count {s : List UInt8} {acc : List Tk} {i : Nat} (h : Lead s acc i) : acc.length ≤ s.length := by
  have := lex_count (s.length + 1) 0 s (by omega)
  rw [h.2, List.length_append] at this
  omega
end Go.Proofs.YtndmdenhmcmbcaaDoor
