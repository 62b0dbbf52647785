/-
  Plain mathematics of layer 17 (rule): the words (tokens) of a written schedule. No program. No condition.
-/
import Derived.Test.YtbhebjkicooidaaDoorLxN
import Derived.Test.YtbhebjkicooidaaDoorRuS
namespace Go.Proofs.YtbhebjkicooidaaDoor
set_option maxRecDepth 100000
set_option linter.unusedVariables false

/-- A word without its place. -/
abbrev T3 := Nat × List UInt8 × Int
def Tk.bare (t : Tk) : T3 := (t.kind, t.text, t.n)
/-- The words of r, with fuel enough. -/
def lexF (a : Nat) (r : List UInt8) : List Tk × Nat × Int := lexL (r.length + 1) a r
/-- Here a word ends. -/
def Stop : List UInt8 → Prop
  | [] => True
  | c :: _ => wordC c.toNat = false
/-- The text t has the words K, whatever stands behind (where b says so: what ends a word). -/
def Lx (b : Bool) (t : List UInt8) (K : List T3) : Prop :=
  ∀ (a : Nat) (r : List UInt8), (b = true → Stop r) → ∃ L : List Tk, L.map Tk.bare = K ∧ lexF a (t ++ r) = (L ++ (lexF (a + t.length) r).1, (lexF (a + t.length) r).2)

theorem Lx.app {b c : Bool} {t u : List UInt8} {K M : List T3} (h : Lx b t K) (k : Lx c u M) (hs : b = true → ∀ r, (c = true → Stop r) → Stop (u ++ r)) : Lx c (t ++ u) (K ++ M) := fun a r hr => by
  obtain ⟨L, hL, e⟩ := h a (u ++ r) (fun hb => hs hb r hr)
  obtain ⟨L', hL', e'⟩ := k (a + t.length) r hr
  refine ⟨L ++ L', by rw [List.map_append, hL, hL'], ?_⟩
  rw [List.append_assoc, e, e', List.length_append, Nat.add_assoc]
  simp
theorem Lx.nil : Lx false [] [] := fun a r _ => ⟨[], rfl, by simp⟩
theorem Lx.weak {t : List UInt8} {K : List T3} (h : Lx false t K) (b : Bool) : Lx b t K := fun a r _ => h a r (fun h => by cases h)
theorem lex_skip (f a : Nat) (c : UInt8) (r : List UInt8) (hk : skipN false (c :: r) = skipN false r + 1) : lexL (f + 1) a (c :: r) = lexL (f + 1) (a + 1) r := by
  have hd : (c :: r).drop (skipN false (c :: r)) = r.drop (skipN false r) := by rw [hk, List.drop_succ_cons]
  have ha : a + skipN false (c :: r) = a + 1 + skipN false r := by omega
  by_cases h : r.drop (skipN false r) = []
  · rw [lex_end h, lex_end (by rw [hd]; exact h), ha]
  · by_cases he : (oneW (r.drop (skipN false r))).e = 0
    · rw [lex_one h he, lex_one (by rw [hd]; exact h) (by rw [hd]; exact he), hd, ha]
    · rw [lex_bad h he, lex_bad (by rw [hd]; exact h) (by rw [hd]; exact he), hd, ha]
theorem lx_blank (c : UInt8) (h : blankC c.toNat = true) (h35 : c.toNat ≠ 35) : Lx false [c] [] := fun a r _ => by
  refine ⟨[], rfl, ?_⟩
  have hk : skipN false (c :: r) = skipN false r + 1 := by rw [skipN, if_neg h35, if_pos h]
  show lexL ((c :: r).length + 1) a (c :: r) = ([] ++ (lexF (a + 1) r).1, (lexF (a + 1) r).2)
  rw [List.nil_append]
  show _ = lexF (a + 1) r
  unfold lexF
  rw [lex_fuel (r.length + 1) (r.length + 1 + 1) (a + 1) r (by omega) (by omega), List.length_cons, lex_skip _ _ _ _ hk]
/-- A word at the front. -/
theorem lx_one {b : Bool} {c : UInt8} {t : List UInt8} {kind : Nat} {text : List UInt8} {n : Int} (h35 : c.toNat ≠ 35) (hb : blankC c.toNat = false)
    (h : ∀ r, (b = true → Stop r) → oneW (c :: (t ++ r)) = ⟨kind, text, n, t.length + 1, 0⟩) : Lx b (c :: t) [(kind, text, n)] := fun a r hr => by
  have ho := h r hr
  refine ⟨[⟨kind, text, n, a⟩], rfl, ?_⟩
  have hs : skipN false (c :: (t ++ r)) = 0 := skip_none c _ h35 hb
  have hd : (c :: (t ++ r)).drop (skipN false (c :: (t ++ r))) = c :: (t ++ r) := by rw [hs]; rfl
  show lexL ((c :: (t ++ r)).length + 1) a (c :: (t ++ r)) = _
  rw [lex_one (by rw [hd]; simp) (by rw [hd, ho]), hd, ho, hs, Nat.add_zero]
  have hr2 : (c :: (t ++ r)).drop (t.length + 1) = r := by rw [List.drop_succ_cons, List.drop_left]
  rw [hr2, List.length_cons, lex_fuel ((t ++ r).length + 1) (r.length + 1) _ r (by rw [List.length_append]; omega) (by omega)]
  rfl
theorem takeN_all (p : Nat → Bool) : ∀ (l r : List UInt8), (∀ b ∈ l, p b.toNat = true) → (match r with | [] => True | c :: _ => p c.toNat = false) → takeN p (l ++ r) = l.length
  | [], [], _, _ => rfl
  | [], c :: r, _, h => by rw [List.nil_append, takeN, if_neg (by simp only at h; rw [h]; decide)]; rfl
  | b :: l, r, h, hr => by
    rw [List.cons_append, takeN, if_pos (h b (by simp)), takeN_all p l r (fun x hx => h x (by simp [hx])) hr]; rfl
def headLow : List UInt8 → Bool
  | [] => false
  | c :: _ => lowC c.toNat
theorem lx_open : Lx false [40] [(4, [40], 0)] := lx_one (by decide) (by decide) (fun r _ => rfl)
theorem lx_close : Lx false [41] [(5, [41], 0)] := lx_one (by decide) (by decide) (fun r _ => rfl)
theorem lx_end : Lx false [59] [(6, [59], 0)] := lx_one (by decide) (by decide) (fun r _ => rfl)
/-- A word of letters. -/
theorem lx_word {w : List UInt8} (h1 : 1 ≤ w.length) (hl : headLow w = true) (ha : w.all (fun b => wordC b.toNat) = true) : Lx true w [(1, w, 0)] := by
  cases w with
  | nil => simp at h1
  | cons c t =>
    have hl' : lowC c.toNat = true := hl
    have hc : 97 ≤ c.toNat ∧ c.toNat ≤ 122 := of_decide_eq_true hl'
    refine lx_one (by omega) (by unfold blankC; simp; omega) (fun r hr => ?_)
    rw [oneW_cons]
    unfold oneC
    rw [if_neg (by omega), if_neg (by omega), if_neg (by omega), if_pos hl']
    unfold wordW
    have e : takeN wordC (c :: (t ++ r)) = t.length + 1 := by
      have := takeN_all wordC (c :: t) r (fun b hb => List.all_eq_true.1 ha b hb) (by
        have := hr rfl
        cases r with
        | nil => trivial
        | cons x r => exact this)
      rw [List.cons_append] at this
      exact this
    rw [e, List.take_succ_cons, List.take_left]
/-- A name in quotes. -/
theorem lx_quote {c : List UInt8} (hn : nameS c = true) : Lx false (34 :: (c ++ [34])) [(2, c, 0)] := by
  refine lx_one (by decide) (by decide) (fun r _ => ?_)
  rw [oneW_cons]
  unfold oneC
  rw [if_neg (by decide), if_neg (by decide), if_neg (by decide), if_neg (by decide), if_pos (by decide)]
  have hall := ((name_iff c).1 hn).2.2
  have e : takeN noQ (c ++ [34] ++ r) = c.length := by
    rw [List.append_assoc]
    exact takeN_all noQ c ([34] ++ r) (fun b hb => by
      have := hall b hb
      unfold noQ
      unfold okc at this
      simp at this ⊢
      omega) (by show noQ 34 = false; decide)
  unfold quoteW
  have e2 : (c ++ [34] ++ r).take c.length = c := by rw [List.append_assoc, List.take_left]
  rw [e, e2, if_pos ⟨by simp, hn⟩]
  simp
/-- A span. -/
theorem lx_span (d : Int) (h0 : 0 ≤ d) (h1 : d ≤ 1048576) : Lx false (textD d) [(3, textD d, d)] := by
  have hp := parse_text d h0 h1
  have ht : textD d = Lib.decDigits (d.toNat / unitD (greatD d.toNat).toNat) ++ [greatD d.toNat] := by unfold textD; rw [if_neg (by omega)]
  have hdig : ∀ b ∈ Lib.decDigits (d.toNat / unitD (greatD d.toNat).toNat), digC b.toNat = true := by
    have hn := numF_digits (d.toNat / unitD (greatD d.toNat).toNat)
    have key : ∀ (l : List UInt8) (n k : Nat), numF n l = some k → ∀ b ∈ l, digC b.toNat = true := by
      intro l
      induction l with
      | nil => intro n k _ b hb; cases hb
      | cons c l ih =>
        intro n k h b hb
        rw [numF] at h
        by_cases hc : 48 ≤ c.toNat ∧ c.toNat ≤ 57
        · rw [if_pos hc] at h
          rcases List.mem_cons.1 hb with rfl | hb
          · exact decide_eq_true hc
          · exact ih _ _ h b hb
        · rw [if_neg hc] at h; cases h
    exact key _ _ _ hn
  have hu : digC (greatD d.toNat).toNat = false := by
    rcases great_unit d.toNat with h | h | h | h <;> (rw [h.1]; decide)
  generalize hD : Lib.decDigits (d.toNat / unitD (greatD d.toNat).toNat) = D at *
  have hD1 : 1 ≤ D.length := by rw [← hD]; exact digits_pos _
  cases D with
  | nil => simp at hD1
  | cons c l =>
    rw [ht] at hp ⊢
    rw [List.cons_append] at hp ⊢
    have hc := hdig c (by simp)
    have hc2 : 48 ≤ c.toNat ∧ c.toNat ≤ 57 := of_decide_eq_true hc
    refine lx_one (by omega) (by unfold blankC; simp; omega) (fun r _ => ?_)
    rw [oneW_cons]
    unfold oneC
    rw [if_neg (by omega), if_neg (by omega), if_neg (by omega), if_neg (by unfold lowC; simp; omega), if_neg (by omega), if_pos hc]
    have e : takeN digC (c :: (l ++ [greatD d.toNat] ++ r)) = l.length + 1 := by
      have := takeN_all digC (c :: l) ([greatD d.toNat] ++ r) hdig (by show digC _ = false; exact hu)
      rw [List.cons_append, ← List.append_assoc] at this
      exact this
    have e2 : spanE (c :: (l ++ [greatD d.toNat] ++ r)) = c :: (l ++ [greatD d.toNat]) := by
      unfold spanE
      rw [e, List.take_succ_cons]
      congr 1
      have : (l ++ [greatD d.toNat]).length = l.length + 1 := by simp
      rw [← this, List.take_left]
    unfold spanW
    rw [e2, hp, if_pos rfl]
    simp

/-! The words of what is written. -/
def orW : List UInt8 := [111, 114]
def andW : List UInt8 := [97, 110, 100]
def afterV : List UInt8 := [97, 102, 116, 101, 114]
def keepV : List UInt8 := [107, 101, 101, 112]
def thenV : List UInt8 := [116, 104, 101, 110]
def sepT (p : Int) : T3 := (1, if p = 3 then andW else orW, 0)
def brT (p k : Int) (t : List T3) : List T3 := if k = 2 ∨ (k = 3 ∧ p = 3) then (4, [40], 0) :: (t ++ [(5, [41], 0)]) else t
def joinK (s : T3) : List (List T3) → List T3
  | [] => []
  | [x] => x
  | x :: y :: r => x ++ s :: joinK s (y :: r)
/-- A condition's words. -/
def toksX : (f : Nat) → Ex f → List T3
  | 0, x => nomatch x
  | f + 1, (x : Nx (Ex f)) => if x.op = 1 then [(3, textD x.days, x.days), (1, afterV, 0), (1, x.mile, 0)] else joinK (sepT x.op) (x.kids.map fun u => brT x.op (opX f u) (toksX f u))
def ofT (c : List UInt8) : List T3 := if c = [] then [(1, [100, 101, 102, 97, 117, 108, 116], 0)] else [(1, [99, 108, 97, 115, 115], 0), (2, c, 0)]
/-- A rule's words. -/
def toksR (f : Nat) (r : Rl f) : List T3 := ofT r.cls ++ ((1, keepV, 0) :: (toksX f r.when_ ++ [(1, thenV, 0), (1, actS r.act, 0), (6, [59], 0)]))

theorem stop_32 (l : List UInt8) : Stop (32 :: l) := by show wordC 32 = false; decide
theorem lx_32 : Lx false [32] [] := lx_blank 32 (by decide) (by decide)
theorem lx_lf : Lx false [10] [] := lx_blank 10 (by decide) (by decide)
/-- A word between blanks. -/
theorem lx_mid {w : List UInt8} (h : Lx true w [(1, w, 0)]) : Lx false ([32] ++ (w ++ [32])) [(1, w, 0)] :=
  lx_32.app (h.app lx_32 (fun _ r _ => stop_32 _)) (fun h => by cases h)
theorem lx_fixed (w : List UInt8) (h1 : 1 ≤ w.length) (hl : headLow w = true) (ha : w.all (fun b => wordC b.toNat) = true) : Lx true w [(1, w, 0)] := lx_word h1 hl ha
theorem lx_sep (p : Int) : Lx false (sepX p) [sepT p] := by
  unfold sepX sepT
  by_cases h : p = 3
  · rw [if_pos h, if_pos h]; exact lx_mid (w := andW) (lx_fixed _ (by decide) (by decide) (by decide))
  · rw [if_neg h, if_neg h]; exact lx_mid (w := orW) (lx_fixed _ (by decide) (by decide) (by decide))
theorem sep_stop (p : Int) (l : List UInt8) : Stop (sepX p ++ l) := by
  unfold sepX
  split <;> exact stop_32 _
theorem lx_join (p : Int) : ∀ (xs : List (List UInt8)) (ks : List (List T3)), xs.length = ks.length → xs ≠ [] → (∀ (i : Nat) x k, xs[i]? = some x → ks[i]? = some k → Lx true x k) → Lx true (Lib.join xs (sepX p)) (joinK (sepT p) ks)
  | [], _, _, h, _ => absurd rfl h
  | [x], [k], _, _, h => by rw [Lib.join_one]; exact h 0 x k rfl rfl
  | [x], [], h, _, _ => by simp at h
  | [x], _ :: _ :: _, h, _, _ => by simp at h
  | x :: y :: r, [], h, _, _ => by simp at h
  | x :: y :: r, [k], h, _, _ => by simp at h
  | x :: y :: r, k :: m :: s, h, _, hx => by
    have ih := lx_join p (y :: r) (m :: s) (by simpa using h) (by simp) (fun i a b h1 h2 => hx (i + 1) a b (by simpa using h1) (by simpa using h2))
    have e : Lib.join (x :: y :: r) (sepX p) = x ++ (sepX p ++ Lib.join (y :: r) (sepX p)) := by
      rw [Lib.join_cons, Lib.join_cons]
      simp [Lib.joinTail, List.append_assoc]
    rw [e]
    show Lx true _ (k ++ ([sepT p] ++ joinK (sepT p) (m :: s)))
    exact (hx 0 x k rfl rfl).app ((lx_sep p).app ih (fun h => by cases h)) (fun _ l _ => by rw [List.append_assoc]; exact sep_stop p _)
theorem word_parts {l : List UInt8} (h : wordS l = true) : 1 ≤ l.length ∧ headLow l = true ∧ l.all (fun b => wordC b.toNat) = true := by
  unfold wordS at h
  simp only [Bool.and_eq_true, decide_eq_true_eq] at h
  exact ⟨h.1.1.1.1, by cases l with | nil => exact h.1.2 | cons c l => exact h.1.2, h.2⟩
theorem toks_eq (f : Nat) (x : Nx (Ex f)) : toksX (f + 1) x = if x.op = 1 then [(3, textD x.days, x.days), (1, afterV, 0), (1, x.mile, 0)] else joinK (sepT x.op) (x.kids.map fun u => brT x.op (opX f u) (toksX f u)) := rfl
theorem lx_br (p k : Int) {t : List UInt8} {K : List T3} (h : Lx true t K) : Lx true (brX p k t) (brT p k K) := by
  unfold brX brT
  by_cases hb : k = 2 ∨ (k = 3 ∧ p = 3)
  · rw [if_pos hb, if_pos hb]
    exact ((lx_open.app (h.app lx_close (fun _ r _ => by show wordC 41 = false; decide)) (fun h => by cases h))).weak true
  · rw [if_neg hb, if_neg hb]; exact h
/-- The words of a condition's text. -/
theorem lx_expr : ∀ (f : Nat) (x : Ex f) (d : Int), okX f x d = true → Lx true (exprX f x) (toksX f x)
  | 0, x, _, _ => nomatch x
  | f + 1, x, d, h => by
    have hf := ok_fits (x := (x : Nx (Ex f))) h
    by_cases h1 : (x : Nx (Ex f)).op = 1
    · obtain ⟨d0, d1, hw, _⟩ := fits_one hf h1
      obtain ⟨w1, w2, w3⟩ := word_parts hw
      have e1 : exprX (f + 1) x = textD (x : Nx (Ex f)).days ++ (([32] ++ (afterV ++ [32])) ++ (x : Nx (Ex f)).mile) := (expr_eq f x).trans (by rw [if_pos h1]; unfold afterW afterV; simp)
      have e2 : toksX (f + 1) x = [(3, textD (x : Nx (Ex f)).days, (x : Nx (Ex f)).days)] ++ ([(1, afterV, 0)] ++ [(1, (x : Nx (Ex f)).mile, 0)]) := (toks_eq f x).trans (by rw [if_pos h1]; rfl)
      rw [e1, e2]
      exact (lx_span _ d0 d1).app ((lx_mid (w := afterV) (lx_fixed _ (by decide) (by decide) (by decide))).app (lx_word w1 w2 w3) (fun h => by cases h)) (fun h => by cases h)
    · obtain ⟨_, _, _, h2⟩ := fits_many hf h1
      have e1 : exprX (f + 1) x = Lib.join ((x : Nx (Ex f)).kids.map fun u => brX (x : Nx (Ex f)).op (opX f u) (exprX f u)) (sepX (x : Nx (Ex f)).op) := (expr_eq f x).trans (if_neg h1)
      have e2 : toksX (f + 1) x = joinK (sepT (x : Nx (Ex f)).op) ((x : Nx (Ex f)).kids.map fun u => brT (x : Nx (Ex f)).op (opX f u) (toksX f u)) := (toks_eq f x).trans (if_neg h1)
      rw [e1, e2]
      refine lx_join _ _ _ (by simp) (fun h => by have := congrArg List.length h; simp at this; rw [this] at h2; simp at h2) (fun i a k ha hk => ?_)
      rw [List.getElem?_map] at ha hk
      cases hq : (x : Nx (Ex f)).kids[i]? with
      | none => rw [hq] at ha; cases ha
      | some u =>
        rw [hq] at ha hk
        simp only [Option.map_some, Option.some.injEq] at ha hk
        subst ha hk
        exact lx_br _ _ (lx_expr f u (d - 1) (ok_kid h (List.mem_of_getElem? hq)))
theorem lx_act (n : Int) : Lx true (actS n) [(1, actS n, 0)] := by
  unfold actS
  split
  · exact lx_fixed _ (by decide) (by decide) (by decide)
  · split <;> exact lx_fixed _ (by decide) (by decide) (by decide)
theorem lx_of {c : List UInt8} (h : c = [] ∨ nameS c = true) : Lx true (ofS c) (ofT c) := by
  unfold ofS ofT
  by_cases hc : c = []
  · rw [if_pos hc, if_pos hc]; exact lx_fixed _ (by decide) (by decide) (by decide)
  · rw [if_neg hc, if_neg hc]
    have hn : nameS c = true := by rcases h with h | h; exact absurd h hc; exact h
    have e : ([99, 108, 97, 115, 115, 32, 34] ++ c ++ [34] : List UInt8) = [99, 108, 97, 115, 115] ++ ([32] ++ (34 :: (c ++ [34]))) := by simp
    rw [e]
    exact ((lx_fixed [99, 108, 97, 115, 115] (by decide) (by decide) (by decide)).app (lx_32.app (lx_quote hn) (fun h => by cases h)) (fun _ r _ => stop_32 _)).weak true
/-- The words of a rule's line. -/
theorem lx_line {f : Nat} {r : Rl f} (h : goodR f r = true) : Lx false (lineR f r) (toksR f r) := by
  unfold goodR at h
  simp only [Bool.and_eq_true, Bool.or_eq_true, decide_eq_true_eq] at h
  obtain ⟨⟨_, hc⟩, hm⟩ := h
  unfold mayX at hm
  simp only [Bool.and_eq_true, decide_eq_true_eq] at hm
  have e1 : lineR f r = ofS r.cls ++ (([32] ++ (keepV ++ [32])) ++ (exprX f r.when_ ++ (([32] ++ (thenV ++ [32])) ++ (actS r.act ++ ([59] ++ [10]))))) := by
    unfold lineR keepW thenW keepV thenV
    simp [List.append_assoc]
  have e2 : toksR f r = ofT r.cls ++ ([(1, keepV, 0)] ++ (toksX f r.when_ ++ ([(1, thenV, 0)] ++ ([(1, actS r.act, 0)] ++ ([(6, [59], 0)] ++ []))))) := by
    unfold toksR
    simp
  rw [e1, e2]
  exact (lx_of hc).app ((lx_mid (w := keepV) (lx_fixed _ (by decide) (by decide) (by decide))).app ((lx_expr f r.when_ 8 hm.1).app ((lx_mid (w := thenV) (lx_fixed _ (by decide) (by decide) (by decide))).app ((lx_act r.act).app (lx_end.app lx_lf (fun h => by cases h))
    (fun _ r _ => by show wordC 59 = false; decide)) (fun h => by cases h)) (fun _ r _ => stop_32 _)) (fun h => by cases h)) (fun _ r _ => stop_32 _)
/-- The words of all lines. -/
theorem lx_lines {f : Nat} : ∀ (l : List (Rl f)), (∀ r ∈ l, goodR f r = true) → Lx false (l.flatMap (lineR f)) (l.flatMap (toksR f))
  | [], _ => Lx.nil
  | r :: l, h => by
    rw [List.flatMap_cons, List.flatMap_cons]
    exact (lx_line (h r (by simp))).app (lx_lines l fun x hx => h x (by simp [hx])) (fun h => by cases h)
/-- All the words of what is printed. -/
theorem all_print {f : Nat} {l : List (Rl f)} (h : (printR f l).2 = 0) : ∃ L : List Tk, L.map Tk.bare = l.flatMap (toksR f) ∧ allS (printR f l).1 = (L, (printR f l).1.length, 0) := by
  unfold printR at h ⊢
  by_cases hz : checkR f l = 0
  case neg => rw [if_neg hz] at h; exact absurd h hz
  rw [if_pos hz] at h ⊢
  by_cases hl : 600 < (l.flatMap (lineR f)).length
  · rw [if_pos hl] at h; exact absurd h (by decide)
  rw [if_neg hl]
  have hg : ∀ r ∈ l, goodR f r = true := by
    unfold checkR at hz
    by_cases h1 : 12 < l.length
    · rw [if_pos h1] at hz; omega
    · rw [if_neg h1] at hz
      by_cases h2 : l.all (goodR f) = false
      · rw [if_pos h2] at hz; omega
      · exact fun r hr => List.all_eq_true.1 (by simpa using h2) r hr
  obtain ⟨L, hL, e⟩ := lx_lines l hg 0 [] (fun h => by cases h)
  refine ⟨L, hL, ?_⟩
  rw [List.append_nil] at e
  have e0 : lexF (0 + (l.flatMap (lineR f)).length) [] = ([], 0 + (l.flatMap (lineR f)).length, 0) := rfl
  rw [e0] at e
  unfold allS
  rw [if_neg hl]
  have e3 : lexL ((l.flatMap (lineR f)).length + 1) 0 (l.flatMap (lineR f)) = (L, (l.flatMap (lineR f)).length, 0) := by
    have : lexL ((l.flatMap (lineR f)).length + 1) 0 (l.flatMap (lineR f)) = lexF 0 (l.flatMap (lineR f)) := rfl
    rw [this, e]
    simp
  rw [e3, if_pos rfl]
end Go.Proofs.YtbhebjkicooidaaDoor
