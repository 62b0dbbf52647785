/-
  LxP: Plain mathematics of layer 16 (lex), as the program goes through a text: what is led to from a place, and what is cut off a word. No program. No condition.
  Goto: A scope that the run leaves for its one label, once: over any program. No condition.
  LxB: All's scope (layer 16): a scope that the run goes through by jumps to several labels; the frame at a label, and what holds there. No condition.
-/
import Derived.Test.YthindhlogkhclaaGreatDoorPz06
import Derived.Lib.TrimByte
import Derived.ScopeJumps
import Derived.WalkMore
import Derived.Test.YthindhlogkhclaaGreatDoorPz07
set_option linter.unusedVariables false
set_option maxRecDepth 100000
namespace Go.Proofs.YthindhlogkhclaaGreatDoor
section
theorem drop_clean (c : UInt8) (l : List UInt8) (h : ∀ b ∈ l, b ≠ c) : l.dropWhile (· == c) = l := by
  cases l with
  | nil => rfl
  | cons b l =>
    rw [List.dropWhile_cons]
    have : (b == c) = false := by simpa using h b (List.mem_cons_self ..)
    rw [this]
    rfl
theorem trim_clean (c : UInt8) (l : List UInt8) (h : ∀ b ∈ l, b ≠ c) : Lib.trimB l c = l := by
  unfold Lib.trimB Lib.trimRightB Lib.trimLeftB
  rw [drop_clean c l.reverse (fun b hb => h b (List.mem_reverse.1 hb)), List.reverse_reverse, drop_clean c l h]
theorem trim_quoted (c : UInt8) (q : List UInt8) (hq : 1 ≤ q.length) (h : ∀ b ∈ q, b ≠ c) : Lib.trimB (c :: (q ++ [c])) c = q := by
  unfold Lib.trimB Lib.trimRightB Lib.trimLeftB
  have e1 : (c :: (q ++ [c])).reverse = c :: (q.reverse ++ [c]) := by simp
  have e2 : (q.reverse ++ [c]).dropWhile (· == c) = q.reverse ++ [c] := by
    cases hr : q.reverse with
    | nil => have := congrArg List.length hr; simp at this; subst this; simp at hq
    | cons x r =>
      have hx : x ∈ q := List.mem_reverse.1 (by rw [hr]; exact List.mem_cons_self ..)
      have : (x == c) = false := by simpa using h x hx
      rw [List.cons_append, List.dropWhile_cons, this]
      rfl
  rw [e1, List.dropWhile_cons, if_pos (by simp), e2, List.reverse_append, List.reverse_reverse]
  show List.dropWhile (· == c) (c :: q) = q
  rw [List.dropWhile_cons, if_pos (by simp), drop_clean c q h]
theorem takeN_all (p : Nat → Bool) (l : List UInt8) : ∀ b ∈ l.take (takeN p l), p b.toNat = true := by
  intro b hb
  obtain ⟨i, hi, e⟩ := List.mem_iff_getElem.1 hb
  rw [List.length_take] at hi
  refine takeN_in p l i b ?_ (by omega)
  rw [← e, List.getElem_take]
  exact List.getElem?_eq_getElem _
theorem ne_quote {b : UInt8} (h : b.toNat ≠ 34) : b ≠ 34 := fun e => h (by rw [e]; rfl)
theorem word_ne {b : UInt8} (h : wordC b.toNat = true) : b ≠ 34 := ne_quote fun e => by rw [e] at h; exact absurd h (by decide)
theorem dig_ne {b : UInt8} (h : digC b.toNat = true) : b ≠ 34 := ne_quote fun e => by rw [e] at h; exact absurd h (by decide)
theorem okc_ne {b : UInt8} (h : okc b.toNat = true) : b ≠ 34 := ne_quote fun e => by rw [e] at h; exact absurd h (by decide)
theorem unit_ne {b : UInt8} (h : unitD b.toNat ≠ 0) : b ≠ 34 := ne_quote fun e => by rw [e] at h; exact h (by decide)
theorem quote_end {l : List UInt8} (h : takeN noQ l < l.length) : (34 :: l).take (takeN noQ l + 2) = 34 :: (l.take (takeN noQ l) ++ [34]) := by
  obtain ⟨x, hx⟩ : ∃ x, l[takeN noQ l]? = some x := ⟨_, List.getElem?_eq_getElem h⟩
  have ho := takeN_out noQ l x hx
  have hx34 : x = 34 := by
    have : x.toNat = 34 := by simpa [noQ] using ho
    exact UInt8.toNat_inj.1 this
  rw [show takeN noQ l + 2 = (takeN noQ l + 1) + 1 by omega, List.take_succ_cons, List.take_add_one, hx, hx34]
  rfl
theorem one_trim {c : UInt8} {l : List UInt8} (h : (oneC c l).e = 0) : Lib.trimB ((c :: l).take (oneC c l).size) 34 = (oneC c l).text := by
  unfold oneC at h ⊢
  by_cases h1 : c.toNat = 40
  · rw [if_pos h1]
    exact trim_clean 34 [c] fun b hb => by rw [List.mem_singleton.1 hb]; exact ne_quote (by omega)
  rw [if_neg h1] at h ⊢
  by_cases h2 : c.toNat = 41
  · rw [if_pos h2]
    exact trim_clean 34 [c] fun b hb => by rw [List.mem_singleton.1 hb]; exact ne_quote (by omega)
  rw [if_neg h2] at h ⊢
  by_cases h3 : c.toNat = 59
  · rw [if_pos h3]
    exact trim_clean 34 [c] fun b hb => by rw [List.mem_singleton.1 hb]; exact ne_quote (by omega)
  rw [if_neg h3] at h ⊢
  by_cases h4 : lowC c.toNat = true
  · rw [if_pos h4]
    unfold wordW
    exact trim_clean 34 _ fun b hb => word_ne (takeN_all wordC _ b hb)
  rw [if_neg h4] at h ⊢
  by_cases h5 : c.toNat = 34
  · rw [if_pos h5] at h ⊢
    unfold quoteW at h ⊢
    by_cases h6 : takeN noQ l < l.length ∧ nameS (l.take (takeN noQ l)) = true
    · rw [if_pos h6]
      have hc : c = 34 := UInt8.toNat_inj.1 h5
      obtain ⟨n1, n2, n3⟩ := (name_iff _).1 h6.2
      rw [hc]
      show Lib.trimB ((34 :: l).take (takeN noQ l + 2)) 34 = _
      rw [quote_end h6.1, trim_quoted 34 _ n1 fun b hb => okc_ne (n3 b hb)]
    · rw [if_neg h6] at h; exact absurd h (by decide)
  rw [if_neg h5] at h ⊢
  by_cases h6 : digC c.toNat = true
  · rw [if_pos h6] at h ⊢
    unfold spanW at h ⊢
    by_cases h7 : (parseD (spanE (c :: l))).2 = 0
    · rw [if_pos h7]
      have hr := span_room h7
      have e : (c :: l).take (spanE (c :: l)).length = spanE (c :: l) := by rw [spanE_len]; unfold spanE; congr 1; omega
      show Lib.trimB ((c :: l).take (spanE (c :: l)).length) 34 = spanE (c :: l)
      rw [e]
      obtain ⟨u, hu, hun⟩ := parse_unit h7
      refine trim_clean 34 _ fun b hb => ?_
      have es : spanE (c :: l) = (c :: l).take (takeN digC (c :: l)) ++ [(c :: l)[takeN digC (c :: l)]] := by
        unfold spanE
        rw [List.take_succ_eq_append_getElem hr]
      have el : (c :: l)[takeN digC (c :: l)] = u := by
        rw [es, List.getLast?_append] at hu
        simpa using hu
      rw [es] at hb
      rcases List.mem_append.1 hb with hb | hb
      · exact dig_ne (takeN_all digC _ b hb)
      · rw [List.mem_singleton.1 hb, el]
        exact unit_ne hun
    · rw [if_neg h7] at h; exact absurd h h7
  · rw [if_neg h6] at h; exact absurd h (by decide)
/-! What is led to. -/
def Lead (s : List UInt8) (acc : List Tk) (i : Nat) : Prop :=
  i ≤ s.length ∧ lexL (s.length + 1) 0 s = (acc ++ (lexL (s.length + 1) i (s.drop i)).1, (lexL (s.length + 1) i (s.drop i)).2)
theorem lead_zero (s : List UInt8) : Lead s [] 0 := ⟨Nat.zero_le _, by rw [List.drop_zero]; rfl⟩
theorem lex_move {f a b : Nat} {r q : List UInt8} (h1 : a + skipN false r = b + skipN false q) (h2 : r.drop (skipN false r) = q.drop (skipN false q)) : lexL (f + 1) a r = lexL (f + 1) b q := by
  rw [lexL, lexL, h1, h2]
theorem lead_move {s : List UInt8} {acc : List Tk} {i j : Nat} (h : Lead s acc i) (hj : j ≤ s.length) (e : i + skipN false (s.drop i) = j + skipN false (s.drop j)) : Lead s acc j := by
  refine ⟨hj, ?_⟩
  rw [h.2, lex_move (f := s.length) (a := i) (b := j) e (by rw [List.drop_drop, List.drop_drop, e])]
theorem lead_blank {s : List UInt8} {acc : List Tk} {i : Nat} (h : Lead s acc i) : Lead s acc (i + takeN blankC (s.drop i)) := by
  have hle := takeN_le blankC (s.drop i)
  have hi := h.1
  rw [List.length_drop] at hle
  refine lead_move h (by omega) ?_
  have e := skip_blank (s.drop i)
  rw [List.drop_drop] at e
  omega
theorem lead_hash {s : List UInt8} {acc : List Tk} {i : Nat} (h : Lead s acc i) {c : UInt8} {l : List UInt8} (hd : s.drop i = c :: l) (hc : c.toNat = 35) : Lead s acc (i + takeN noL (s.drop i)) := by
  have hle := takeN_le noL (s.drop i)
  have hi := h.1
  rw [List.length_drop] at hle
  refine lead_move h (by omega) ?_
  have e := skip_hash c l hc
  rw [← hd, List.drop_drop] at e
  omega
theorem lead_end {s : List UInt8} {acc : List Tk} (h : Lead s acc s.length) : lexL (s.length + 1) 0 s = (acc, s.length, 0) := by
  rw [h.2, List.drop_length, lex_end (by simp [skipN])]
  simp [skipN]
theorem skip_here {s : List UInt8} {i : Nat} {c : UInt8} {l : List UInt8} (hd : s.drop i = c :: l) (hc : c.toNat ≠ 35) (hb : blankC c.toNat = false) : skipN false (s.drop i) = 0 := by rw [hd]; exact skip_none c l hc hb
theorem lead_bad {s : List UInt8} {acc : List Tk} {i : Nat} (h : Lead s acc i) {c : UInt8} {l : List UInt8} (hd : s.drop i = c :: l) (hc : c.toNat ≠ 35) (hb : blankC c.toNat = false) (he : (oneC c l).e ≠ 0) :
    (lexL (s.length + 1) 0 s).2 = (i, (oneC c l).e) := by
  have h0 := skip_here hd hc hb
  rw [h.2, lex_bad (by rw [h0, List.drop_zero, hd]; simp) (by rw [h0, List.drop_zero, hd, oneW_cons]; exact he), h0, List.drop_zero, hd, oneW_cons]
  rfl
theorem lead_tok {s : List UInt8} {acc : List Tk} {i : Nat} (h : Lead s acc i) {c : UInt8} {l : List UInt8} (hd : s.drop i = c :: l) (hc : c.toNat ≠ 35) (hb : blankC c.toNat = false) (he : (oneC c l).e = 0) :
    Lead s (acc ++ [⟨(oneC c l).kind, (oneC c l).text, (oneC c l).n, i⟩]) (i + (oneC c l).size) := by
  have h0 := skip_here hd hc hb
  have o1 := one_size (r := c :: l) (by rw [oneW_cons]; exact he)
  rw [oneW_cons] at o1
  have hl : (c :: l).length = s.length - i := by rw [← hd, List.length_drop]
  have hi := h.1
  refine ⟨by omega, ?_⟩
  have hne : (s.drop i).drop (skipN false (s.drop i)) ≠ [] := by rw [h0, List.drop_zero, hd]; simp
  have hone : (oneW ((s.drop i).drop (skipN false (s.drop i)))).e = 0 := by rw [h0, List.drop_zero, hd, oneW_cons]; exact he
  have hst := lex_one (f := s.length) (a := i) hne hone
  rw [h0, List.drop_zero] at hst
  have ed : oneW (s.drop i) = oneC c l := by rw [hd, oneW_cons]
  rw [ed, List.drop_drop, Nat.add_zero] at hst
  have hf := lex_fuel s.length (s.length + 1) (i + (oneC c l).size) (s.drop (i + (oneC c l).size)) (by rw [List.length_drop]; omega) (by rw [List.length_drop]; omega)
  have e0 : i + 0 = i := rfl
  rw [e0] at hst
  rw [h.2, hst, hf, List.append_assoc]
  rfl
theorem all_short {s : List UInt8} (h : s.length ≤ 600) : allS s = if (lexL (s.length + 1) 0 s).2.2 = 0 then lexL (s.length + 1) 0 s else ([], (lexL (s.length + 1) 0 s).2) := by
  unfold allS
  rw [if_neg (by omega)]
theorem all_long {s : List UInt8} (h : 600 < s.length) : allS s = ([], 0, 3) := by
  unfold allS
  rw [if_pos h]
theorem all_done {s : List UInt8} {acc : List Tk} (h6 : s.length ≤ 600) (h : Lead s acc s.length) : allS s = (acc, s.length, 0) := by
  rw [all_short h6, lead_end h, if_pos rfl]
theorem all_bad {s : List UInt8} {acc : List Tk} {i : Nat} (h6 : s.length ≤ 600) (h : Lead s acc i) {c : UInt8} {l : List UInt8} (hd : s.drop i = c :: l) (hc : c.toNat ≠ 35) (hb : blankC c.toNat = false) (he : (oneC c l).e ≠ 0) :
    allS s = ([], i, (oneC c l).e) := by
  have := lead_bad h hd hc hb he
  rw [all_short h6, this, if_neg he]
theorem lead_count {s : List UInt8} {acc : List Tk} {i : Nat} (h : Lead s acc i) : acc.length ≤ s.length := by
  have := lex_count (s.length + 1) 0 s (by omega)
  rw [h.2, List.length_append] at this
  omega
end
section
section
variable {P : Program} {a : Act} {w : World} {Q : Exit → Act → World → Prop}
theorem wp_scope_goto {c rest : Code} (l : Nat) {a1 : Act} {w1 : World} (hf : findLabel c l = some rest)
    (first : c.wp P (Exit.jump l (fun a' w' => a' = a1 ∧ w' = w1) Q) a w)
    (pass : rest.wp P (Exit.jump l (fun a' w' => (a' = a1 ∧ w' = w1) ∧ 0 < 0) Q) a1 w1) : (Code.scope c).wp P Q a w := by
  refine wp_scope_jumps l (fun a' w' => a' = a1 ∧ w' = w1) (fun _ _ => 0) hf first ?_
  rintro a' w' ⟨rfl, rfl⟩
  exact pass
theorem wp_scope_goto_any {c rest : Code} (l : Nat) {α : Type} {a1 : α → Act} {R : World → Prop} (hf : findLabel c l = some rest)
    (first : c.wp P (Exit.jump l (fun a' w' => R w' ∧ ∃ x, a' = a1 x) Q) a w)
    (pass : ∀ x w1, R w1 → rest.wp P (Exit.jump l (fun a' w' => (R w' ∧ ∃ x, a' = a1 x) ∧ 0 < 0) Q) (a1 x) w1) : (Code.scope c).wp P Q a w := by
  refine wp_scope_jumps l (fun a' w' => R w' ∧ ∃ x, a' = a1 x) (fun _ _ => 0) hf first ?_
  rintro a' w' ⟨hr, x, rfl⟩
  exact pass x w' hr
@[go_sem] theorem Exit.jump_ret (l : Nat) (J : Act → World → Prop) : Exit.jump l J Q .ret a w = Q .ret a w := rfl
end
end
section
open Go.RowKit
def Exit.jumps (J : Nat → Act → World → Prop) (Q : Exit → Act → World → Prop) : Exit → Act → World → Prop
  | .goto l, a, w => J l a w
  | e, a, w => Q e a w
section
variable {P : Program} {a : Act} {w : World} {Q : Exit → Act → World → Prop}
@[go_sem] theorem Exit.jumps_ret (J : Nat → Act → World → Prop) : Exit.jumps J Q .ret a w = Q .ret a w := rfl
theorem Exit.jumps_mono {J J' : Nat → Act → World → Prop} (h : ∀ l a w, J l a w → J' l a w) {c : Code} (hc : c.wp P (Exit.jumps J Q) a w) : c.wp P (Exit.jumps J' Q) a w :=
  Code.wp_mono (fun e a' w' hh => by
    cases e with
    | goto l' => exact h _ _ _ hh
    | _ => exact hh) hc
theorem wp_scope_many {c : Code} (K : Nat → Nat → Act → World → Prop) (first : c.wp P (Exit.jumps (fun l a w => ∃ m, K m l a w) Q) a w)
    (pass : ∀ m l a w, K m l a w → ∃ rest, findLabel c l = some rest ∧ rest.wp P (Exit.jumps (fun l' a' w' => ∃ m', m' < m ∧ K m' l' a' w') Q) a w) : (Code.scope c).wp P Q a w := by
  intro b k cs
  have key : ∀ m l a w rest, K m l a w → findLabel c l = some rest → ∃ e a' w', Q e a' w' ∧ Arrives P (lone (b.at a (.code rest :: .inScope c :: k)) cs w) b k cs e a' w' := by
    intro m
    induction m using Nat.strongRecOn with
    | _ m ih =>
      intro l a w rest hK hf
      obtain ⟨rest', hf', hw⟩ := pass m l a w hK
      obtain rfl : rest' = rest := Option.some.inj (hf'.symm.trans hf)
      obtain ⟨e, a₁, w₁, hq, harr⟩ := hw b (.inScope c :: k) cs
      cases e with
      | normal => exact ⟨.normal, a₁, w₁, hq, Steps.trans harr (.one step_inScope)⟩
      | exit id => exact ⟨.exit id, a₁, w₁, hq, fun k' hk => harr k' (by simp [exitTo, hk])⟩
      | goto l' =>
        obtain ⟨m', hlt, hK'⟩ := hq
        obtain ⟨rest2, hf2, _⟩ := pass m' l' a₁ w₁ hK'
        have hg : gotoIn l' (.inScope c :: k) = some (.code rest2 :: .inScope c :: k) := by simp [gotoIn, hf2]
        obtain ⟨e₂, a₂, w₂, hq₂, harr₂⟩ := ih m' hlt l' a₁ w₁ rest2 hK' hf2
        exact ⟨e₂, a₂, w₂, hq₂, .of_steps (harr _ hg) harr₂⟩
      | ret => exact ⟨_, a₁, w₁, hq, harr⟩
      | panic ch => exact ⟨_, a₁, w₁, hq, harr⟩
      | outgrown => exact ⟨_, a₁, w₁, hq, harr⟩
  obtain ⟨e, a₁, w₁, hq, harr⟩ := first b (.inScope c :: k) cs
  cases e with
  | normal => exact ⟨.normal, a₁, w₁, hq, .head step_scope (Steps.trans harr (.one step_inScope))⟩
  | exit id => exact ⟨.exit id, a₁, w₁, hq, fun k' hk => .head step_scope (harr k' (by simp [exitTo, hk]))⟩
  | goto l' =>
    obtain ⟨m', hK'⟩ := hq
    obtain ⟨rest2, hf2, _⟩ := pass m' l' a₁ w₁ hK'
    have hg : gotoIn l' (.inScope c :: k) = some (.code rest2 :: .inScope c :: k) := by simp [gotoIn, hf2]
    obtain ⟨e₂, a₂, w₂, hq₂, harr₂⟩ := key m' l' a₁ w₁ rest2 hK' hf2
    exact ⟨e₂, a₂, w₂, hq₂, .of_steps (.head step_scope (harr _ hg)) harr₂⟩
  | ret => exact ⟨_, a₁, w₁, hq, .of_steps (.one step_scope) harr⟩
  | panic ch => exact ⟨_, a₁, w₁, hq, .of_steps (.one step_scope) harr⟩
  | outgrown => exact ⟨_, a₁, w₁, hq, .of_steps (.one step_scope) harr⟩
theorem wp_fall {c : Code} {l : Nat} {rest x : Code} (h : findLabel c l = some (Code.skip.seq rest)) (hx : findLabel c l = some (Code.skip.seq x)) (hw : rest.wp P Q a w) : x.wp P Q a w := by
  obtain rfl : rest = x := by
    have := h.symm.trans hx
    injection this with this
    injection this
  exact hw
end
noncomputable def bodyX : Code := match Tryz.f14.body with
  | some (.seq _ (.scope c)) => c
  | _ => .skip
noncomputable def frX (s v p x y e c : Value) (f : Nat → Value) : Act := ⟨[s, f 1, f 2, f 3, f 4, v, p, x, y, e, c, f 11, f 12, f 13, f 14, f 15, f 16, f 17, f 18, f 19, f 20, f 21, f 22, f 23, f 24, f 25, f 26, f 27, f 28, f 29, f 30, f 31, f 32, f 33, f 34, f 35, f 36, f 37, f 38, f 39, f 40, f 41, f 42, f 43, f 44, f 45, f 46, f 47, f 48, f 49, f 50, f 51, f 52, f 53, f 54, f 55, f 56, f 57, f 58, f 59, f 60, f 61, f 62, f 63, f 64, f 65, f 66, f 67, f 68, f 69, f 70, f 71, f 72, f 73, f 74, f 75, f 76, f 77, f 78, f 79, f 80, f 81, f 82, f 83, f 84, f 85, f 86, f 87, f 88, f 89, f 90, f 91, f 92, f 93, f 94, f 95, f 96, f 97, f 98, f 99, f 100, f 101, f 102, f 103, f 104, f 105, f 106, f 107, f 108, f 109, f 110, f 111, f 112, f 113, f 114, f 115, f 116, f 117, f 118, f 119, f 120, f 121, f 122, f 123, f 124, f 125, f 126, f 127].toArray, []⟩
structure AtX (s : List UInt8) (w0 w : World) (v : Value) (acc : List Tk) (row : Array Value) : Prop where
  own : w.ownsRow (w0.heap.size + 1) 62 4 v acc.length (flatK acc)
  kb : KB w w0.heap.size 62 row
  four : row.size = 4
  bel : Below w0.heap.size w0 w
structure HereX (s : List UInt8) (acc : List Tk) (i : Nat) (c : UInt8) (l : List UInt8) : Prop where
  six : s.length ≤ 600
  lead : Lead s acc i
  at_ : s.drop i = c :: l
  no : c.toNat ≠ 35
  nob : blankC c.toNat = false
def KX (s : List UInt8) (w0 : World) (m l : Nat) (a : Act) (w : World) : Prop :=
  ∃ (v x y e c : Value) (f : Nat → Value) (acc : List Tk) (row : Array Value), a = frX (strV s) v (.pointer (some ⟨w0.heap.size, 0, none⟩)) x y e c f ∧ AtX s w0 w v acc row ∧
    match l with
    | 0 => ∃ (i : Nat) (r : Int), x = .int .i64 (i : Int) ∧ e = .int .i64 r ∧ allS s = ([], i, r)
    | 1 => ∃ i : Nat, y = .int .i64 (i : Int) ∧ s.length ≤ 600 ∧ Lead s acc i ∧ m = 4 * (s.length - i) + 3
    | 2 => ∃ (i : Nat) (c : UInt8) (l : List UInt8), x = .int .i64 (i : Int) ∧ s.length ≤ 600 ∧ Lead s acc i ∧ s.drop i = c :: l ∧ c.toNat = 35 ∧ m = 4 * (s.length - i) + 2
    | 3 => ∃ (i : Nat) (c : UInt8) (l : List UInt8), x = .int .i64 (i : Int) ∧ HereX s acc i c l ∧ lowC c.toNat = true ∧ row = #[.int .i64 0, strV [], .int .i64 0, .int .i64 (i : Int)] ∧ m = 4 * (s.length - i) + 2
    | 4 => ∃ (i : Nat) (c : UInt8) (l : List UInt8), x = .int .i64 (i : Int) ∧ e = .int .i64 2 ∧ HereX s acc i c l ∧ c.toNat = 34 ∧ row = #[.int .i64 0, strV [], .int .i64 0, .int .i64 (i : Int)] ∧ m = 4 * (s.length - i) + 2
    | 5 => ∃ (i : Nat) (c : UInt8) (l : List UInt8), x = .int .i64 (i : Int) ∧ HereX s acc i c l ∧ digC c.toNat = true ∧ row = #[.int .i64 0, strV [], .int .i64 0, .int .i64 (i : Int)] ∧ m = 4 * (s.length - i) + 2
    | 6 => ∃ (i : Nat) (c : UInt8) (l : List UInt8), x = .int .i64 (i : Int) ∧ y = .int .i64 ((i + (oneC c l).size : Nat) : Int) ∧ HereX s acc i c l ∧ (oneC c l).e = 0 ∧ row = #[.int .i64 ((oneC c l).kind : Int), strV [], .int .i64 (oneC c l).n, .int .i64 (i : Int)] ∧ m = 4 * (s.length - i) + 1
    | _ => False
def AllAs (s : List UInt8) (w0 : World) (e : Ending) (w : World) : Prop :=
  ∃ v, e = .returned (.tuple #[v, .int .i64 ((allS s).2.1 : Int), .int .i64 (allS s).2.2]) ∧ TS w (fun b => w0.heap.size ≤ b) v (allS s).1 ∧ Below w0.heap.size w0 w
section
variable {s : List UInt8} {w0 w w' : World} {v : Value} {acc : List Tk} {row : Array Value}
theorem AtX.below (h : AtX s w0 w v acc row) (b : Below w.heap.size w w') : AtX s w0 w' v acc row :=
  ⟨own_past b h.own, h.kb.keep (b.block _ h.kb.lt), h.four, h.bel.trans (b.mono h.bel.size)⟩
end
end
end Go.Proofs.YthindhlogkhclaaGreatDoor
