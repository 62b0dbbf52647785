/-
  RuS: Plain mathematics of layer 17 (rule): how long texts of conditions are. No program. No condition.
  RvA: Plain mathematics of layer 17 (rule): the words (tokens) of a written schedule. No program. No condition.
  PaN: Plain mathematics of layer 18 (parse): the words of a written condition are read as that condition, and what it costs. No program. No condition.
  PaO: Plain mathematics of layer 18 (parse): the words of a written rule, and of written rules, are read as these. No program. No condition.
  PaP: Plain mathematics of layer 18 (parse): what is printed is read as the same rules, with a thousand fuel (P18.3). No program. No condition.
  RuC: The document's left, MayExpr, small (layer 17), over the loaded program: each one's contract. No condition but the sizes that each contract names.
  RuD: The document's MayExpr, small and Small (layer 17), over the loaded program: each one's contract. No condition but the sizes that each contract names.
  InR: Which names may be: the document's Name (layer 12), over the loaded program: its contract. No condition but sizes that each contract names.
  RuR: The document's Check (layer 17), over the loaded program: its contract. No condition but sizes.
  LayI: DERIVED: THE SHELF's CONTRACTS AT THIS DUMP, IN PLAIN WORDS (tools/lay-plain.mjs out of 'YthindhlogkhclaaDoorLayI.lean', which tools/lay-shelf.mjs wrote): THE SAME DECLARATIONS UNDER THE SAME NAMES: 'import', 'namespace', 'open', 'def', 'theorem' AND NOTHING ELSE: no command of the shelf's: FOR A HAND-IN. Each laying: the table of numbers ('.._ren') and one theorem, a field a fact of the dump's own or the kernel's comparison; each contract: ONE APPLICATION.
  SpE: A span's text: the program's greatest, strconv.Itoa, Text (layer 15), over the loaded program: each one's contract. No condition but that the library's table of powers of ten is as laid.
  SpF: A span's text: the program's Text (layer 15), over the loaded program: its contract. No condition but that the library's table of powers of ten is as laid.
  SpG: A span's text: the document's tell, Tell, After, Add (layer 15), over the loaded program: each one's contract. No condition but sizes.
  SpH: A span's text and the tick behind another one: the document's Text, After, Add (layer 15), over the loaded program: each one's contract. No condition but that a number is an int.
  RuO: The document's act and Expr (layer 17), over the loaded program: each one's contract. No condition but sizes.
  RuU: The document's Print (layer 17), over the loaded program: its contract. No condition but sizes.
  ParseBackW: The law ParseBack over the loaded program: what the document prints is read as the same rules. No condition.
  ParseBackP: THE STATEMENT ParseBack of layer: proved out of the law's contract (parseBack_law): for every input the call returns true, and the input reads as it did. No condition.
-/
import Derived.Test.YthindhlogkhclaaDoorPm08
import Derived.Test.YthindhlogkhclaaDoorPm03
import Derived.Test.YthindhlogkhclaaDoorPm13
import Derived.Test.YthindhlogkhclaaDoorPm06
import Derived.Test.YthindhlogkhclaaDoorPm07
import Derived.WalkSpells
import Derived.BigQuiet
import Derived.Deep.QuietTactic
import Derived.Test.YthindhlogkhclaaDoorPm01
import Derived.Test.YthindhlogkhclaaDoorPm04
import Derived.Lib.Strings
import Derived.Test.YthindhlogkhclaaDoorPm24
import Derived.Shelf.Strconv.Itoa3
import Derived.Test.YthindhlogkhclaaDoorProg
import Derived.Test.YthindhlogkhclaaDoorPm29
import Derived.Lib.AppendIntMem
import Derived.Lib.ItoaLen
import Derived.Lib.SlBytesConst
import Derived.Laws.Runes
import Derived.Test.YthindhlogkhclaaDoorPm32
import Derived.Test.YthindhlogkhclaaDoorPm33
import Derived.Test.YthindhlogkhclaaDoorCards
import Derived.Test.YthindhlogkhclaaDoorTie
import Derived.Lay
import Derived.Stop.Joined
import Derived.SevenTiedAt
import Derived.WalkKit
import Derived.ProofKit
import Derived.OpenShut
import Derived.ShutString
import Derived.ChangeOld
import Derived.Below
set_option linter.unusedVariables false
set_option maxRecDepth 100000
namespace Go.Proofs.YthindhlogkhclaaDoor
section
theorem text_len (d : Int) : (textD d).length ≤ 8 := by
  unfold textD
  split
  · simp
  · rename_i h
    have := nDigits_seven (d.toNat / unitD (greatD d.toNat).toNat) (Nat.le_trans (Nat.div_le_self _ _) (by omega))
    rw [List.length_append, Lib.decDigits_length]
    simp
    omega
theorem fits_one {α : Type} {x : Nx α} (h : fitsX x = true) (h1 : x.op = 1) : 0 ≤ x.days ∧ x.days ≤ 1048576 ∧ wordS x.mile = true ∧ x.kids = [] := by
  unfold fitsX at h
  rw [if_pos h1] at h
  simp only [Bool.and_eq_true, decide_eq_true_eq] at h
  exact ⟨h.1.1.1, h.1.1.2, h.1.2, List.eq_nil_of_length_eq_zero h.2⟩
theorem fits_many {α : Type} {x : Nx α} (h : fitsX x = true) (h1 : x.op ≠ 1) : (x.op = 2 ∨ x.op = 3) ∧ x.days = 0 ∧ x.mile = [] ∧ 2 ≤ x.kids.length := by
  unfold fitsX at h
  rw [if_neg h1] at h
  by_cases h2 : x.op = 2 ∨ x.op = 3
  · rw [if_pos h2] at h
    simp only [Bool.and_eq_true, decide_eq_true_eq] at h
    exact ⟨h2, h.1.1, h.1.2, h.2⟩
  · rw [if_neg h2] at h; cases h
theorem word_sixteen {l : List UInt8} (h : wordS l = true) : l.length ≤ 16 ∧ 1 ≤ l.length := by
  unfold wordS at h
  simp only [Bool.and_eq_true, decide_eq_true_eq] at h
  exact ⟨h.1.1.1.2, h.1.1.1.1⟩
theorem br_len (p k : Int) (t : List UInt8) : (brX p k t).length ≤ t.length + 2 := by
  unfold brX
  split <;> simp
theorem sep_len (p : Int) : (sepX p).length ≤ 5 := by
  unfold sepX
  split <;> simp
theorem join_len (s : List UInt8) (hs : s.length ≤ 5) : ∀ (x : List UInt8) (l : List (List UInt8)), (Lib.join (x :: l) s).length ≤ ((x :: l).map fun t => t.length + 5).sum
  | x, l => by
    rw [Lib.join_cons, List.length_append, Lib.joinTail_length]
    have h1 : Lib.lens l = (l.map (·.length)).sum := rfl
    have h2 : ∀ l : List (List UInt8), s.length * l.length + (l.map (·.length)).sum ≤ (l.map fun t => t.length + 5).sum := by
      intro l
      induction l with
      | nil => simp
      | cons y l ih =>
        simp only [List.length_cons, List.map_cons, List.sum_cons, Nat.mul_succ]
        omega
    have := h2 l
    rw [List.map_cons, List.sum_cons, h1]
    omega
theorem expr_eq (f : Nat) (x : Nx (Ex f)) : exprX (f + 1) x = if x.op = 1 then textD x.days ++ afterW ++ x.mile else Lib.join (x.kids.map fun u => brX x.op (opX f u) (exprX f u)) (sepX x.op) := rfl
theorem expr_len : ∀ (f : Nat) (x : Ex f) (d : Int), okX f x d = true → (exprX f x).length + 7 ≤ 40 * nodesX f x
  | 0, x, _, _ => nomatch x
  | f + 1, x, d, h => by
    have ih := fun u d h => expr_len f u d h
    replace h := (ok_eq f x d).symm.trans h
    simp only [Bool.and_eq_true] at h
    obtain ⟨⟨_, hf⟩, hk⟩ := h
    refine Nat.le_trans (Nat.le_of_eq (congrArg (fun t : List UInt8 => t.length + 7) (expr_eq f x))) (Nat.le_trans ?_ (Nat.le_of_eq (congrArg (40 * ·) (nodes_eq f x).symm)))
    by_cases h1 : (x : Nx (Ex f)).op = 1
    · rw [if_pos h1]
      obtain ⟨_, _, hw, _⟩ := fits_one hf h1
      have h3 := text_len (x : Nx (Ex f)).days
      have h4 := (word_sixteen hw).1
      unfold afterW
      simp only [List.length_append, List.length_cons, List.length_nil]
      omega
    · rw [if_neg h1]
      have key : ∀ ks : List (Ex f), (ks.all fun u => okX f u (d - 1)) = true → ((ks.map fun u => brX (x : Nx (Ex f)).op (opX f u) (exprX f u)).map fun t => t.length + 5).sum ≤ 40 * (ks.map (nodesX f)).sum := by
        intro ks
        induction ks with
        | nil => simp
        | cons u ks ihk =>
          intro hk
          rw [List.all_cons, Bool.and_eq_true] at hk
          have h1 := ih u (d - 1) hk.1
          have h2 := ihk hk.2
          have h3 := br_len (x : Nx (Ex f)).op (opX f u) (exprX f u)
          simp only [List.map_cons, List.sum_cons] at h2 ⊢
          omega
      have hm := key _ hk
      cases hq : (x : Nx (Ex f)).kids with
      | nil => simp [Lib.join_nil]
      | cons u ks =>
        rw [hq] at hm
        have := join_len (sepX (x : Nx (Ex f)).op) (sep_len _) (brX (x : Nx (Ex f)).op (opX f u) (exprX f u)) (ks.map fun u => brX (x : Nx (Ex f)).op (opX f u) (exprX f u))
        rw [List.map_cons] at hm ⊢
        omega
theorem ok_kid {f : Nat} {x : Nx (Ex f)} {d : Int} (h : okX (f + 1) x d = true) {u : Ex f} (hu : u ∈ x.kids) : okX f u (d - 1) = true := by
  rw [ok_eq] at h
  simp only [Bool.and_eq_true] at h
  exact List.all_eq_true.1 h.2 u hu
theorem ok_fits {f : Nat} {x : Nx (Ex f)} {d : Int} (h : okX (f + 1) x d = true) : fitsX x = true := by
  rw [ok_eq] at h
  simp only [Bool.and_eq_true] at h
  exact h.1.2
theorem nodes_kid {f : Nat} {x : Nx (Ex f)} {j : Nat} (hj : j < x.kids.length) : nodesX f x.kids[j] + x.kids.length ≤ nodesX (f + 1) x := by
  rw [nodes_eq]
  have h1 := sumX_step x.kids j hj
  have h2 : sumX f x.kids (j + 1) + (x.kids.length - (j + 1)) ≤ (x.kids.map (nodesX f)).sum := by
    rw [sum_split x.kids (j + 1)]
    have := sum_ge (x.kids.drop (j + 1))
    rw [List.length_drop] at this
    omega
  have h3 : j ≤ sumX f x.kids j := by
    have := sum_ge (x.kids.take j)
    rw [List.length_take] at this
    unfold sumX
    omega
  omega
end
section
abbrev T3 := Nat × List UInt8 × Int
def Tk.bare (t : Tk) : T3 := (t.kind, t.text, t.n)
def lexF (a : Nat) (r : List UInt8) : List Tk × Nat × Int := lexL (r.length + 1) a r
def Stop : List UInt8 → Prop
  | [] => True
  | c :: _ => wordC c.toNat = false
def Lx (b : Bool) (t : List UInt8) (K : List T3) : Prop :=
  ∀ (a : Nat) (r : List UInt8), (b = true → Stop r) → ∃ L : List Tk, L.map Tk.bare = K ∧ lexF a (t ++ r) = (L ++ (lexF (a + t.length) r).1, (lexF (a + t.length) r).2)
theorem Lx.app {b c : Bool} {t u : List UInt8} {K M : List T3} (h : Lx b t K) (k : Lx c u M) (hs : b = true → ∀ r, (c = true → Stop r) → Stop (u ++ r)) : Lx c (t ++ u) (K ++ M) := fun a r hr => by
  obtain ⟨L, hL, e⟩ := h a (u ++ r) (fun hb => hs hb r hr)
  obtain ⟨L', hL', e'⟩ := k (a + t.length) r hr
  refine ⟨L ++ L', by rw [List.map_append, hL, hL'], ?_⟩
  rw [List.append_assoc, e, e', List.length_append, Nat.add_assoc]
  simp
theorem Lx.nil : Lx false [] [] := fun a r _ => ⟨[], rfl, by simp⟩
theorem Lx.weak {t : List UInt8} {K : List T3} (h : Lx false t K) (b : Bool) : Lx b t K := fun a r _ => h a r (fun h => by cases h)
theorem lex_skip (f a : Nat) (c : UInt8) (r : List UInt8) (hk : skipN false (c :: r) = skipN false r + 1) : lexL (f + 1) a (c :: r) = lexL (f + 1) (a + 1) r := by
  have hd : (c :: r).drop (skipN false (c :: r)) = r.drop (skipN false r) := by rw [hk, List.drop_succ_cons]
  have ha : a + skipN false (c :: r) = a + 1 + skipN false r := by omega
  by_cases h : r.drop (skipN false r) = []
  · rw [lex_end h, lex_end (by rw [hd]; exact h), ha]
  · by_cases he : (oneW (r.drop (skipN false r))).e = 0
    · rw [lex_one h he, lex_one (by rw [hd]; exact h) (by rw [hd]; exact he), hd, ha]
    · rw [lex_bad h he, lex_bad (by rw [hd]; exact h) (by rw [hd]; exact he), hd, ha]
theorem lx_blank (c : UInt8) (h : blankC c.toNat = true) (h35 : c.toNat ≠ 35) : Lx false [c] [] := fun a r _ => by
  refine ⟨[], rfl, ?_⟩
  have hk : skipN false (c :: r) = skipN false r + 1 := by rw [skipN, if_neg h35, if_pos h]
  show lexL ((c :: r).length + 1) a (c :: r) = ([] ++ (lexF (a + 1) r).1, (lexF (a + 1) r).2)
  rw [List.nil_append]
  show _ = lexF (a + 1) r
  unfold lexF
  rw [lex_fuel (r.length + 1) (r.length + 1 + 1) (a + 1) r (by omega) (by omega), List.length_cons, lex_skip _ _ _ _ hk]
theorem lx_one {b : Bool} {c : UInt8} {t : List UInt8} {kind : Nat} {text : List UInt8} {n : Int} (h35 : c.toNat ≠ 35) (hb : blankC c.toNat = false)
    (h : ∀ r, (b = true → Stop r) → oneW (c :: (t ++ r)) = ⟨kind, text, n, t.length + 1, 0⟩) : Lx b (c :: t) [(kind, text, n)] := fun a r hr => by
  have ho := h r hr
  refine ⟨[⟨kind, text, n, a⟩], rfl, ?_⟩
  have hs : skipN false (c :: (t ++ r)) = 0 := skip_none c _ h35 hb
  have hd : (c :: (t ++ r)).drop (skipN false (c :: (t ++ r))) = c :: (t ++ r) := by rw [hs]; rfl
  show lexL ((c :: (t ++ r)).length + 1) a (c :: (t ++ r)) = _
  rw [lex_one (by rw [hd]; simp) (by rw [hd, ho]), hd, ho, hs, Nat.add_zero]
  have hr2 : (c :: (t ++ r)).drop (t.length + 1) = r := by rw [List.drop_succ_cons, List.drop_left]
  rw [hr2, List.length_cons, lex_fuel ((t ++ r).length + 1) (r.length + 1) _ r (by rw [List.length_append]; omega) (by omega)]
  rfl
theorem takeN_wholly (p : Nat → Bool) : ∀ (l r : List UInt8), (∀ b ∈ l, p b.toNat = true) → (match r with | [] => True | c :: _ => p c.toNat = false) → takeN p (l ++ r) = l.length
  | [], [], _, _ => rfl
  | [], c :: r, _, h => by rw [List.nil_append, takeN, if_neg (by simp only at h; rw [h]; decide)]; rfl
  | b :: l, r, h, hr => by
    rw [List.cons_append, takeN, if_pos (h b (by simp)), takeN_wholly p l r (fun x hx => h x (by simp [hx])) hr]; rfl
def headLow : List UInt8 → Bool
  | [] => false
  | c :: _ => lowC c.toNat
theorem lx_open : Lx false [40] [(4, [40], 0)] := lx_one (by decide) (by decide) (fun r _ => rfl)
theorem lx_close : Lx false [41] [(5, [41], 0)] := lx_one (by decide) (by decide) (fun r _ => rfl)
theorem lx_end : Lx false [59] [(6, [59], 0)] := lx_one (by decide) (by decide) (fun r _ => rfl)
theorem lx_word {w : List UInt8} (h1 : 1 ≤ w.length) (hl : headLow w = true) (ha : w.all (fun b => wordC b.toNat) = true) : Lx true w [(1, w, 0)] := by
  cases w with
  | nil => simp at h1
  | cons c t =>
    have hl' : lowC c.toNat = true := hl
    have hc : 97 ≤ c.toNat ∧ c.toNat ≤ 122 := of_decide_eq_true hl'
    refine lx_one (by omega) (by unfold blankC; simp; omega) (fun r hr => ?_)
    rw [oneW_cons]
    unfold oneC
    rw [if_neg (by omega), if_neg (by omega), if_neg (by omega), if_pos hl']
    unfold wordW
    have e : takeN wordC (c :: (t ++ r)) = t.length + 1 := by
      have := takeN_wholly wordC (c :: t) r (fun b hb => List.all_eq_true.1 ha b hb) (by
        have := hr rfl
        cases r with
        | nil => trivial
        | cons x r => exact this)
      rw [List.cons_append] at this
      exact this
    rw [e, List.take_succ_cons, List.take_left]
theorem lx_quote {c : List UInt8} (hn : nameS c = true) : Lx false (34 :: (c ++ [34])) [(2, c, 0)] := by
  refine lx_one (by decide) (by decide) (fun r _ => ?_)
  rw [oneW_cons]
  unfold oneC
  rw [if_neg (by decide), if_neg (by decide), if_neg (by decide), if_neg (by decide), if_pos (by decide)]
  have hall := ((name_iff c).1 hn).2.2
  have e : takeN noQ (c ++ [34] ++ r) = c.length := by
    rw [List.append_assoc]
    exact takeN_wholly noQ c ([34] ++ r) (fun b hb => by
      have := hall b hb
      unfold noQ
      unfold okc at this
      simp at this ⊢
      omega) (by show noQ 34 = false; decide)
  unfold quoteW
  have e2 : (c ++ [34] ++ r).take c.length = c := by rw [List.append_assoc, List.take_left]
  rw [e, e2, if_pos ⟨by simp, hn⟩]
  simp
theorem lx_span (d : Int) (h0 : 0 ≤ d) (h1 : d ≤ 1048576) : Lx false (textD d) [(3, textD d, d)] := by
  have hp := parse_text d h0 h1
  have ht : textD d = Lib.decDigits (d.toNat / unitD (greatD d.toNat).toNat) ++ [greatD d.toNat] := by unfold textD; rw [if_neg (by omega)]
  have hdig : ∀ b ∈ Lib.decDigits (d.toNat / unitD (greatD d.toNat).toNat), digC b.toNat = true := by
    have hn := numF_digits (d.toNat / unitD (greatD d.toNat).toNat)
    have key : ∀ (l : List UInt8) (n k : Nat), numF n l = some k → ∀ b ∈ l, digC b.toNat = true := by
      intro l
      induction l with
      | nil => intro n k _ b hb; cases hb
      | cons c l ih =>
        intro n k h b hb
        rw [numF] at h
        by_cases hc : 48 ≤ c.toNat ∧ c.toNat ≤ 57
        · rw [if_pos hc] at h
          rcases List.mem_cons.1 hb with rfl | hb
          · exact decide_eq_true hc
          · exact ih _ _ h b hb
        · rw [if_neg hc] at h; cases h
    exact key _ _ _ hn
  have hu : digC (greatD d.toNat).toNat = false := by
    rcases great_unit d.toNat with h | h | h | h <;> (rw [h.1]; decide)
  generalize hD : Lib.decDigits (d.toNat / unitD (greatD d.toNat).toNat) = D at *
  have hD1 : 1 ≤ D.length := by rw [← hD]; exact digits_pos _
  cases D with
  | nil => simp at hD1
  | cons c l =>
    rw [ht] at hp ⊢
    rw [List.cons_append] at hp ⊢
    have hc := hdig c (by simp)
    have hc2 : 48 ≤ c.toNat ∧ c.toNat ≤ 57 := of_decide_eq_true hc
    refine lx_one (by omega) (by unfold blankC; simp; omega) (fun r _ => ?_)
    rw [oneW_cons]
    unfold oneC
    rw [if_neg (by omega), if_neg (by omega), if_neg (by omega), if_neg (by unfold lowC; simp; omega), if_neg (by omega), if_pos hc]
    have e : takeN digC (c :: (l ++ [greatD d.toNat] ++ r)) = l.length + 1 := by
      have := takeN_wholly digC (c :: l) ([greatD d.toNat] ++ r) hdig (by show digC _ = false; exact hu)
      rw [List.cons_append, ← List.append_assoc] at this
      exact this
    have e2 : spanE (c :: (l ++ [greatD d.toNat] ++ r)) = c :: (l ++ [greatD d.toNat]) := by
      unfold spanE
      rw [e, List.take_succ_cons]
      congr 1
      have : (l ++ [greatD d.toNat]).length = l.length + 1 := by simp
      rw [← this, List.take_left]
    unfold spanW
    rw [e2, hp, if_pos rfl]
    simp
/-! The words of what is written. -/
def orW : List UInt8 := [111, 114]
def andW : List UInt8 := [97, 110, 100]
def afterV : List UInt8 := [97, 102, 116, 101, 114]
def keepV : List UInt8 := [107, 101, 101, 112]
def thenV : List UInt8 := [116, 104, 101, 110]
def sepT (p : Int) : T3 := (1, if p = 3 then andW else orW, 0)
def brT (p k : Int) (t : List T3) : List T3 := if k = 2 ∨ (k = 3 ∧ p = 3) then (4, [40], 0) :: (t ++ [(5, [41], 0)]) else t
def joinK (s : T3) : List (List T3) → List T3
  | [] => []
  | [x] => x
  | x :: y :: r => x ++ s :: joinK s (y :: r)
def toksX : (f : Nat) → Ex f → List T3
  | 0, x => nomatch x
  | f + 1, (x : Nx (Ex f)) => if x.op = 1 then [(3, textD x.days, x.days), (1, afterV, 0), (1, x.mile, 0)] else joinK (sepT x.op) (x.kids.map fun u => brT x.op (opX f u) (toksX f u))
def ofT (c : List UInt8) : List T3 := if c = [] then [(1, [100, 101, 102, 97, 117, 108, 116], 0)] else [(1, [99, 108, 97, 115, 115], 0), (2, c, 0)]
def toksR (f : Nat) (r : Rl f) : List T3 := ofT r.cls ++ ((1, keepV, 0) :: (toksX f r.when_ ++ [(1, thenV, 0), (1, actS r.act, 0), (6, [59], 0)]))
theorem stop_32 (l : List UInt8) : Stop (32 :: l) := by show wordC 32 = false; decide
theorem lx_32 : Lx false [32] [] := lx_blank 32 (by decide) (by decide)
theorem lx_lf : Lx false [10] [] := lx_blank 10 (by decide) (by decide)
theorem lx_mid {w : List UInt8} (h : Lx true w [(1, w, 0)]) : Lx false ([32] ++ (w ++ [32])) [(1, w, 0)] :=
  lx_32.app (h.app lx_32 (fun _ r _ => stop_32 _)) (fun h => by cases h)
theorem lx_fixed (w : List UInt8) (h1 : 1 ≤ w.length) (hl : headLow w = true) (ha : w.all (fun b => wordC b.toNat) = true) : Lx true w [(1, w, 0)] := lx_word h1 hl ha
theorem lx_sep (p : Int) : Lx false (sepX p) [sepT p] := by
  unfold sepX sepT
  by_cases h : p = 3
  · rw [if_pos h, if_pos h]; exact lx_mid (w := andW) (lx_fixed _ (by decide) (by decide) (by decide))
  · rw [if_neg h, if_neg h]; exact lx_mid (w := orW) (lx_fixed _ (by decide) (by decide) (by decide))
theorem sep_stop (p : Int) (l : List UInt8) : Stop (sepX p ++ l) := by
  unfold sepX
  split <;> exact stop_32 _
theorem lx_join (p : Int) : ∀ (xs : List (List UInt8)) (ks : List (List T3)), xs.length = ks.length → xs ≠ [] → (∀ (i : Nat) x k, xs[i]? = some x → ks[i]? = some k → Lx true x k) → Lx true (Lib.join xs (sepX p)) (joinK (sepT p) ks)
  | [], _, _, h, _ => absurd rfl h
  | [x], [k], _, _, h => by rw [Lib.join_one]; exact h 0 x k rfl rfl
  | [x], [], h, _, _ => by simp at h
  | [x], _ :: _ :: _, h, _, _ => by simp at h
  | x :: y :: r, [], h, _, _ => by simp at h
  | x :: y :: r, [k], h, _, _ => by simp at h
  | x :: y :: r, k :: m :: s, h, _, hx => by
    have ih := lx_join p (y :: r) (m :: s) (by simpa using h) (by simp) (fun i a b h1 h2 => hx (i + 1) a b (by simpa using h1) (by simpa using h2))
    have e : Lib.join (x :: y :: r) (sepX p) = x ++ (sepX p ++ Lib.join (y :: r) (sepX p)) := by
      rw [Lib.join_cons, Lib.join_cons]
      simp [Lib.joinTail, List.append_assoc]
    rw [e]
    show Lx true _ (k ++ ([sepT p] ++ joinK (sepT p) (m :: s)))
    exact (hx 0 x k rfl rfl).app ((lx_sep p).app ih (fun h => by cases h)) (fun _ l _ => by rw [List.append_assoc]; exact sep_stop p _)
theorem word_parts {l : List UInt8} (h : wordS l = true) : 1 ≤ l.length ∧ headLow l = true ∧ l.all (fun b => wordC b.toNat) = true := by
  unfold wordS at h
  simp only [Bool.and_eq_true, decide_eq_true_eq] at h
  exact ⟨h.1.1.1.1, by cases l with | nil => exact h.1.2 | cons c l => exact h.1.2, h.2⟩
theorem toks_eq (f : Nat) (x : Nx (Ex f)) : toksX (f + 1) x = if x.op = 1 then [(3, textD x.days, x.days), (1, afterV, 0), (1, x.mile, 0)] else joinK (sepT x.op) (x.kids.map fun u => brT x.op (opX f u) (toksX f u)) := rfl
theorem lx_br (p k : Int) {t : List UInt8} {K : List T3} (h : Lx true t K) : Lx true (brX p k t) (brT p k K) := by
  unfold brX brT
  by_cases hb : k = 2 ∨ (k = 3 ∧ p = 3)
  · rw [if_pos hb, if_pos hb]
    exact ((lx_open.app (h.app lx_close (fun _ r _ => by show wordC 41 = false; decide)) (fun h => by cases h))).weak true
  · rw [if_neg hb, if_neg hb]; exact h
theorem lx_expr : ∀ (f : Nat) (x : Ex f) (d : Int), okX f x d = true → Lx true (exprX f x) (toksX f x)
  | 0, x, _, _ => nomatch x
  | f + 1, x, d, h => by
    have hf := ok_fits (x := (x : Nx (Ex f))) h
    by_cases h1 : (x : Nx (Ex f)).op = 1
    · obtain ⟨d0, d1, hw, _⟩ := fits_one hf h1
      obtain ⟨w1, w2, w3⟩ := word_parts hw
      have e1 : exprX (f + 1) x = textD (x : Nx (Ex f)).days ++ (([32] ++ (afterV ++ [32])) ++ (x : Nx (Ex f)).mile) := (expr_eq f x).trans (by rw [if_pos h1]; unfold afterW afterV; simp)
      have e2 : toksX (f + 1) x = [(3, textD (x : Nx (Ex f)).days, (x : Nx (Ex f)).days)] ++ ([(1, afterV, 0)] ++ [(1, (x : Nx (Ex f)).mile, 0)]) := (toks_eq f x).trans (by rw [if_pos h1]; rfl)
      rw [e1, e2]
      exact (lx_span _ d0 d1).app ((lx_mid (w := afterV) (lx_fixed _ (by decide) (by decide) (by decide))).app (lx_word w1 w2 w3) (fun h => by cases h)) (fun h => by cases h)
    · obtain ⟨_, _, _, h2⟩ := fits_many hf h1
      have e1 : exprX (f + 1) x = Lib.join ((x : Nx (Ex f)).kids.map fun u => brX (x : Nx (Ex f)).op (opX f u) (exprX f u)) (sepX (x : Nx (Ex f)).op) := (expr_eq f x).trans (if_neg h1)
      have e2 : toksX (f + 1) x = joinK (sepT (x : Nx (Ex f)).op) ((x : Nx (Ex f)).kids.map fun u => brT (x : Nx (Ex f)).op (opX f u) (toksX f u)) := (toks_eq f x).trans (if_neg h1)
      rw [e1, e2]
      refine lx_join _ _ _ (by simp) (fun h => by have := congrArg List.length h; simp at this; rw [this] at h2; simp at h2) (fun i a k ha hk => ?_)
      rw [List.getElem?_map] at ha hk
      cases hq : (x : Nx (Ex f)).kids[i]? with
      | none => rw [hq] at ha; cases ha
      | some u =>
        rw [hq] at ha hk
        simp only [Option.map_some, Option.some.injEq] at ha hk
        subst ha hk
        exact lx_br _ _ (lx_expr f u (d - 1) (ok_kid h (List.mem_of_getElem? hq)))
theorem lx_act (n : Int) : Lx true (actS n) [(1, actS n, 0)] := by
  unfold actS
  split
  · exact lx_fixed _ (by decide) (by decide) (by decide)
  · split <;> exact lx_fixed _ (by decide) (by decide) (by decide)
theorem lx_of {c : List UInt8} (h : c = [] ∨ nameS c = true) : Lx true (ofS c) (ofT c) := by
  unfold ofS ofT
  by_cases hc : c = []
  · rw [if_pos hc, if_pos hc]; exact lx_fixed _ (by decide) (by decide) (by decide)
  · rw [if_neg hc, if_neg hc]
    have hn : nameS c = true := by rcases h with h | h; exact absurd h hc; exact h
    have e : ([99, 108, 97, 115, 115, 32, 34] ++ c ++ [34] : List UInt8) = [99, 108, 97, 115, 115] ++ ([32] ++ (34 :: (c ++ [34]))) := by simp
    rw [e]
    exact ((lx_fixed [99, 108, 97, 115, 115] (by decide) (by decide) (by decide)).app (lx_32.app (lx_quote hn) (fun h => by cases h)) (fun _ r _ => stop_32 _)).weak true
theorem lx_line {f : Nat} {r : Rl f} (h : goodR f r = true) : Lx false (lineR f r) (toksR f r) := by
  unfold goodR at h
  simp only [Bool.and_eq_true, Bool.or_eq_true, decide_eq_true_eq] at h
  obtain ⟨⟨_, hc⟩, hm⟩ := h
  unfold mayX at hm
  simp only [Bool.and_eq_true, decide_eq_true_eq] at hm
  have e1 : lineR f r = ofS r.cls ++ (([32] ++ (keepV ++ [32])) ++ (exprX f r.when_ ++ (([32] ++ (thenV ++ [32])) ++ (actS r.act ++ ([59] ++ [10]))))) := by
    unfold lineR keepW thenW keepV thenV
    simp [List.append_assoc]
  have e2 : toksR f r = ofT r.cls ++ ([(1, keepV, 0)] ++ (toksX f r.when_ ++ ([(1, thenV, 0)] ++ ([(1, actS r.act, 0)] ++ ([(6, [59], 0)] ++ []))))) := by
    unfold toksR
    simp
  rw [e1, e2]
  exact (lx_of hc).app ((lx_mid (w := keepV) (lx_fixed _ (by decide) (by decide) (by decide))).app ((lx_expr f r.when_ 8 hm.1).app ((lx_mid (w := thenV) (lx_fixed _ (by decide) (by decide) (by decide))).app ((lx_act r.act).app (lx_end.app lx_lf (fun h => by cases h))
    (fun _ r _ => by show wordC 59 = false; decide)) (fun h => by cases h)) (fun _ r _ => stop_32 _)) (fun h => by cases h)) (fun _ r _ => stop_32 _)
theorem lx_lines {f : Nat} : ∀ (l : List (Rl f)), (∀ r ∈ l, goodR f r = true) → Lx false (l.flatMap (lineR f)) (l.flatMap (toksR f))
  | [], _ => Lx.nil
  | r :: l, h => by
    rw [List.flatMap_cons, List.flatMap_cons]
    exact (lx_line (h r (by simp))).app (lx_lines l fun x hx => h x (by simp [hx])) (fun h => by cases h)
theorem all_print {f : Nat} {l : List (Rl f)} (h : (printR f l).2 = 0) : ∃ L : List Tk, L.map Tk.bare = l.flatMap (toksR f) ∧ allS (printR f l).1 = (L, (printR f l).1.length, 0) := by
  unfold printR at h ⊢
  by_cases hz : checkR f l = 0
  case neg => rw [if_neg hz] at h; exact absurd h hz
  rw [if_pos hz] at h ⊢
  by_cases hl : 600 < (l.flatMap (lineR f)).length
  · rw [if_pos hl] at h; exact absurd h (by decide)
  rw [if_neg hl]
  have hg : ∀ r ∈ l, goodR f r = true := by
    unfold checkR at hz
    by_cases h1 : 12 < l.length
    · rw [if_pos h1] at hz; omega
    · rw [if_neg h1] at hz
      by_cases h2 : l.all (goodR f) = false
      · rw [if_pos h2] at hz; omega
      · exact fun r hr => List.all_eq_true.1 (by simpa using h2) r hr
  obtain ⟨L, hL, e⟩ := lx_lines l hg 0 [] (fun h => by cases h)
  refine ⟨L, hL, ?_⟩
  rw [List.append_nil] at e
  have e0 : lexF (0 + (l.flatMap (lineR f)).length) [] = ([], 0 + (l.flatMap (lineR f)).length, 0) := rfl
  rw [e0] at e
  unfold allS
  rw [if_neg hl]
  have e3 : lexL ((l.flatMap (lineR f)).length + 1) 0 (l.flatMap (lineR f)) = (L, (l.flatMap (lineR f)).length, 0) := by
    have : lexL ((l.flatMap (lineR f)).length + 1) 0 (l.flatMap (lineR f)) = lexF 0 (l.flatMap (lineR f)) := rfl
    rw [this, e]
    simp
  rw [e3, if_pos rfl]
end
section
def ReadsAs {α : Type} (item : Ps → α × Ps) (F : List Tk → Prop) (K : List T3) (P : α → Prop) (c : Nat) : Prop :=
  ∀ (L M : List Tk) (n u : Int), L.map Tk.bare = K → F M → (c : Int) ≤ n → ∃ y, P y ∧ item ⟨L ++ M, n, 0, u⟩ = (y, ⟨M, n - c, 0, u + c⟩)
def headIs (k : Nat) (w : List UInt8) (M : List Tk) : Bool := match M with | [] => false | t :: _ => fitT k w t
theorem is_head (k : Nat) (w : List UInt8) (M : List Tk) (n u : Int) : isP k w ⟨M, n, 0, u⟩ = headIs k w M := by
  unfold isP headIs
  cases M <;> simp
theorem next_reads (k : Nat) (w : List UInt8) (t : Tk) (M : List Tk) (n u : Int) (h : fitT k w t = true) (hn : 1 ≤ n) : nextP k w ⟨t :: M, n, 0, u⟩ = (t, ⟨M, n - 1, 0, u + 1⟩) := by
  unfold nextP
  rw [burn_ok rfl (by show ¬ n < 1; omega)]
  show (if (0 : Int) = 0 then takeP k w ⟨t :: M, n - 1, 0, u + 1⟩ else _) = _
  rw [if_pos rfl]
  show (if fitT k w t = true then _ else _ : Tk × Ps) = _
  rw [if_pos h]
theorem fit_bare {t : Tk} {k : Nat} {x : List UInt8} {m : Int} (w : List UInt8) (h : t.bare = (k, x, m)) (hw : w = [] ∨ x = w) : fitT k w t = true := by
  obtain ⟨a, b, c, d⟩ := t
  unfold Tk.bare at h
  injection h with h1 h2
  injection h2 with h2 h3
  dsimp only at h1 h2 h3
  subst h1 h2 h3
  unfold fitT
  rcases hw with rfl | rfl <;> simp
theorem fit_not {t : Tk} {k k' : Nat} {x : List UInt8} {m : Int} (w : List UInt8) (h : t.bare = (k, x, m)) (hw : k ≠ k' ∨ (w ≠ [] ∧ x ≠ w)) : fitT k' w t = false := by
  obtain ⟨a, b, c, d⟩ := t
  unfold Tk.bare at h
  injection h with h1 h2
  injection h2 with h2 h3
  dsimp only at h1 h2 h3
  subst h1 h2 h3
  unfold fitT
  rcases hw with h | ⟨h, h'⟩
  · simp [h]
  · simp [h, h']
theorem map_cons {L : List Tk} {k : T3} {K : List T3} (h : L.map Tk.bare = k :: K) : ∃ t L', L = t :: L' ∧ t.bare = k ∧ L'.map Tk.bare = K := by
  cases L with
  | nil => cases h
  | cons t L' =>
    rw [List.map_cons] at h
    injection h with h1 h2
    exact ⟨t, L', rfl, h1, h2⟩
theorem map_app {L : List Tk} {A B : List T3} (h : L.map Tk.bare = A ++ B) : ∃ L1 L2, L = L1 ++ L2 ∧ L1.map Tk.bare = A ∧ L2.map Tk.bare = B := by
  obtain ⟨L1, L2, h1, h2, h3⟩ := List.map_eq_append_iff.1 h
  exact ⟨L1, L2, h1, h2, h3⟩
theorem span_reads (k : Nat) (d : Int) (s m : List UInt8) (hw : wordS m = true) : ReadsAs (spanP k) (fun _ => True) [(3, s, d), (1, afterV, 0), (1, m, 0)] (fun y => y = (⟨1, d, m, []⟩ : Nx (Ex k))) 3 := by
  intro L M n u hL _ hn
  obtain ⟨t1, L1, rfl, h1, hL⟩ := map_cons hL
  obtain ⟨t2, L2, rfl, h2, hL⟩ := map_cons hL
  obtain ⟨t3, L3, rfl, h3, hL⟩ := map_cons hL
  obtain rfl : L3 = [] := by simpa using hL
  refine ⟨_, rfl, ?_⟩
  have e1 := next_reads 3 [] t1 (t2 :: t3 :: M) n u (fit_bare [] h1 (.inl rfl)) (by omega)
  have e2 := next_reads 1 afterP t2 (t3 :: M) (n - 1) (u + 1) (fit_bare _ h2 (.inr rfl)) (by omega)
  have e3 := next_reads 1 [] t3 M (n - 1 - 1) (u + 1 + 1) (fit_bare [] h3 (.inl rfl)) (by omega)
  have hm : mileP ⟨t3 :: M, n - 1 - 1, 0, u + 1 + 1⟩ = (some m, ⟨M, n - 1 - 1 - 1, 0, u + 1 + 1 + 1⟩) := by
    have ht : t3.text = m := by unfold Tk.bare at h3; injection h3 with _ h; injection h
    rw [mile_no, e3, ht]
    rintro ⟨_, _, _, h⟩
    have h' : wordS t3.text = false := h
    rw [ht, hw] at h'
    cases h'
  show spanP k ⟨t1 :: t2 :: t3 :: M, n, 0, u⟩ = _
  unfold spanP
  rw [e1, e2, hm]
  have hd : t1.n = d := by unfold Tk.bare at h1; injection h1 with _ h; injection h
  show (markP k t1.n (some m), (⟨M, n - 1 - 1 - 1, 0, u + 1 + 1 + 1⟩ : Ps)) = _
  rw [hd, show n - 1 - 1 - 1 = n - (3 : Nat) by omega, show u + 1 + 1 + 1 = u + (3 : Nat) by omega]
  rfl
theorem fact_reads {k : Nat} (inner : Ps → Ex (k + 1) × Ps) (d : Int) (s m : List UInt8) (hw : wordS m = true) : ReadsAs (factP inner) (fun _ => True) [(3, s, d), (1, afterV, 0), (1, m, 0)] (fun y => y = (⟨1, d, m, []⟩ : Nx (Ex k))) 3 := by
  intro L M n u hL hF hn
  obtain ⟨y, h1, h2⟩ := span_reads k d s m hw L M n u hL hF hn
  refine ⟨y, h1, ?_⟩
  obtain ⟨t1, L1, rfl, hb, _⟩ := map_cons hL
  unfold factP
  rw [is_head, show headIs 4 [] (t1 :: L1 ++ M) = false from fit_not [] hb (.inl (by decide)), if_neg (by decide)]
  exact h2
theorem bracket_reads {k c : Nat} {inner : Ps → Ex (k + 1) × Ps} {F : List Tk → Prop} {K : List T3} {P : Ex (k + 1) → Prop} (h : ReadsAs inner F K P c) (hF : ∀ t M, Tk.bare t = (5, [41], 0) → F (t :: M)) :
    ReadsAs (factP inner) (fun _ => True) ((4, [40], 0) :: (K ++ [(5, [41], 0)])) P (c + 2) := by
  intro L M n u hL _ hn
  obtain ⟨t1, L1, rfl, h1, hL⟩ := map_cons hL
  obtain ⟨L2, L3, rfl, h2, h3⟩ := map_app hL
  obtain ⟨t3, L4, rfl, h5, h4⟩ := map_cons h3
  obtain rfl : L4 = [] := by simpa using h4
  have e1 := next_reads 4 [] t1 (L2 ++ (t3 :: M)) n u (fit_bare [] h1 (.inl rfl)) (by omega)
  obtain ⟨y, hy, e2⟩ := h L2 (t3 :: M) (n - 1) (u + 1) h2 (hF t3 M h5) (by omega)
  have e3 := next_reads 5 [] t3 M (n - 1 - c) (u + 1 + c) (fit_bare [] h5 (.inl rfl)) (by omega)
  refine ⟨y, hy, ?_⟩
  rw [show t1 :: (L2 ++ [t3]) ++ M = t1 :: (L2 ++ (t3 :: M)) by simp]
  unfold factP
  rw [is_head, show headIs 4 [] (t1 :: (L2 ++ (t3 :: M))) = true from fit_bare [] h1 (.inl rfl), if_pos rfl]
  unfold innerP
  rw [e1, e2, e3]
  show (y, (⟨M, n - 1 - c - 1, 0, u + 1 + c + 1⟩ : Ps)) = _
  rw [show n - 1 - c - 1 = n - ((c + 2 : Nat) : Int) by omega, show u + 1 + c + 1 = u + ((c + 2 : Nat) : Int) by omega]
theorem more_reads {α β : Type} {item : Ps → α × Ps} {w : List UInt8} {g : α → β → Bool} {K : β → List T3} {C : β → Nat} {F : List Tk → Prop} (hsep : ∀ t M, Tk.bare t = (1, w, 0) → F (t :: M)) :
    ∀ (bs : List β), (∀ b ∈ bs, ReadsAs item F (K b) (fun y => g y b = true) (C b)) → ∀ (G : Nat) (acc : List α) (L M : List Tk) (n u : Int), bs.length ≤ G → L.map Tk.bare = bs.flatMap (fun b => ((1, w, 0) : T3) :: K b) → F M → headIs 1 w M = false →
      (((bs.map fun b => C b + 1).sum : Nat) : Int) ≤ n → ∃ ys, sameXL g ys bs = true ∧ moreP item w G acc ⟨L ++ M, n, 0, u⟩ = (acc ++ ys, ⟨M, n - (((bs.map fun b => C b + 1).sum : Nat) : Int), 0, u + (((bs.map fun b => C b + 1).sum : Nat) : Int)⟩)
  | [], _, G, acc, L, M, n, u, hG, hL, hF, hM, hn => by
    obtain rfl : L = [] := by simpa using hL
    refine ⟨[], rfl, ?_⟩
    have e : moreP item w G acc ⟨M, n, 0, u⟩ = (acc, ⟨M, n, 0, u⟩) := by
      cases G with
      | zero => rfl
      | succ G => rw [moreP, is_head, hM, if_neg (by decide)]
    show moreP item w G acc ⟨M, n, 0, u⟩ = _
    rw [e]
    simp
  | b :: bs, hb, G, acc, L, M, n, u, hG, hL, hF, hM, hn => by
    rw [List.flatMap_cons, List.cons_append] at hL
    obtain ⟨t, L1, rfl, h1, hL⟩ := map_cons hL
    obtain ⟨L2, L3, rfl, h2, h3⟩ := map_app hL
    rw [List.map_cons, List.sum_cons] at hn ⊢
    obtain ⟨S, hS⟩ : ∃ S, S = (bs.map fun b => C b + 1).sum := ⟨_, rfl⟩
    have hF3 : F (L3 ++ M) := by
      cases bs with
      | nil =>
        obtain rfl : L3 = [] := by simpa using h3
        exact hF
      | cons b' bs' =>
        rw [List.flatMap_cons, List.cons_append] at h3
        obtain ⟨t', L4, rfl, h4, _⟩ := map_cons h3
        exact hsep t' _ h4
    have e1 := next_reads 1 w t (L2 ++ (L3 ++ M)) n u (fit_bare w h1 (.inr rfl)) (by omega)
    obtain ⟨y, hy, e2⟩ := hb b (by simp) L2 (L3 ++ M) (n - 1) (u + 1) h2 hF3 (by omega)
    cases G with
    | zero => simp at hG
    | succ G =>
      obtain ⟨ys, hys, e3⟩ := more_reads hsep bs (fun b h => hb b (by simp [h])) G (acc ++ [y]) L3 M (n - 1 - C b) (u + 1 + C b) (by simpa using hG) h3 hF hM (by omega)
      refine ⟨y :: ys, by rw [sameXL, hy, hys]; rfl, ?_⟩
      rw [show t :: (L2 ++ L3) ++ M = t :: (L2 ++ (L3 ++ M)) by simp, moreP, is_head, show headIs 1 w (t :: (L2 ++ (L3 ++ M))) = true from fit_bare w h1 (.inr rfl), if_pos rfl, e1, e2, e3, ← hS]
      rw [List.append_assoc, List.singleton_append]
      rw [show n - 1 - (C b : Int) - (S : Int) = n - ((C b + 1 + S : Nat) : Int) by omega, show u + 1 + (C b : Int) + (S : Int) = u + ((C b + 1 + S : Nat) : Int) by omega]
theorem joinK_cons (s x : T3) (k : List T3) : ∀ r : List (List T3), joinK s (k :: r) = k ++ r.flatMap (fun x => s :: x)
  | [] => by simp [joinK]
  | y :: r => by rw [joinK, joinK_cons s x y r, List.flatMap_cons]; simp
theorem many_reads {α β : Type} {item : Ps → α × Ps} {w : List UInt8} {g : α → β → Bool} {K : β → List T3} {C : β → Nat} {F : List Tk → Prop} (hsep : ∀ t M, Tk.bare t = (1, w, 0) → F (t :: M)) (b : β) (bs : List β)
    (hb : ∀ x ∈ b :: bs, ReadsAs item F (K x) (fun y => g y x = true) (C x)) :
    ReadsAs (manyP item w) (fun M => F M ∧ headIs 1 w M = false) (joinK (1, w, 0) ((b :: bs).map K)) (fun ys => sameXL g ys (b :: bs) = true) (C b + (bs.map fun b => C b + 1).sum) := by
  intro L M n u hL hF hn
  rw [List.map_cons, joinK_cons (1, w, 0) (1, w, 0), List.flatMap_map] at hL
  obtain ⟨L1, L2, rfl, h1, h2⟩ := map_app hL
  have hF2 : F (L2 ++ M) := by
    cases bs with
    | nil =>
      obtain rfl : L2 = [] := by simpa using h2
      exact hF.1
    | cons b' bs' =>
      rw [List.flatMap_cons, List.cons_append] at h2
      obtain ⟨t', L4, rfl, h4, _⟩ := map_cons h2
      exact hsep t' _ h4
  obtain ⟨y, hy, e1⟩ := hb b (by simp) L1 (L2 ++ M) n u h1 hF2 (by omega)
  have hlen : bs.length ≤ L2.length := by
    have : L2.length = (bs.flatMap fun b => ((1, w, 0) : T3) :: K b).length := by rw [← h2, List.length_map]
    rw [this]
    clear this h2 hL hF2 hn e1 hb
    induction bs with
    | nil => simp
    | cons x r ih => simp at ih ⊢; omega
  obtain ⟨ys, hys, e2⟩ := more_reads hsep bs (fun x h => hb x (by simp [h])) (L1 ++ L2 ++ M).length [y] L2 M (n - C b) (u + C b) (by simp; omega) h2 hF.1 hF.2 (by omega)
  refine ⟨y :: ys, by show sameXL g (y :: ys) (b :: bs) = true; rw [sameXL, hy, hys]; rfl, ?_⟩
  unfold manyP
  rw [List.append_assoc] at e2 ⊢
  rw [e1]
  show moreP item w (L1 ++ (L2 ++ M)).length [y] ⟨L2 ++ M, n - C b, 0, u + C b⟩ = _
  rw [e2]
  show (y :: ys, (⟨M, n - (C b : Int) - _, 0, u + (C b : Int) + _⟩ : Ps)) = _
  obtain ⟨S, hS⟩ : ∃ S, S = (bs.map fun b => C b + 1).sum := ⟨_, rfl⟩
  rw [← hS, show n - (C b : Int) - (S : Int) = n - ((C b + S : Nat) : Int) by omega, show u + (C b : Int) + (S : Int) = u + ((C b + S : Nat) : Int) by omega]
def noAnd (M : List Tk) : Prop := headIs 1 andP M = false
def noOr (M : List Tk) : Prop := headIs 1 orP M = false
theorem any_follows {w : List UInt8} : ∀ t M, Tk.bare t = (1, w, 0) → (fun _ : List Tk => True) (t :: M) := fun _ _ _ => trivial
theorem or_noAnd : ∀ t M, Tk.bare t = (1, orP, 0) → noAnd (t :: M) := fun t M h => fit_not andP h (.inr ⟨by decide, by decide⟩)
theorem close_not (t : Tk) (M : List Tk) (h : Tk.bare t = (5, [41], 0)) : noAnd (t :: M) ∧ noOr (t :: M) := ⟨fit_not _ h (.inl (by decide)), fit_not _ h (.inl (by decide))⟩
theorem pack_one (k : Nat) (op : Int) (x : Ex k) : packP k op [x] = liftX k x := rfl
theorem pack_more (k : Nat) (op : Int) (l : List (Ex k)) (h : 2 ≤ l.length) : packP k op l = (⟨op, 0, [], l⟩ : Nx (Ex k)) := by
  match l, h with
  | a :: b :: r, _ => rfl
theorem sameXL_long {α β : Type} {g : α → β → Bool} : ∀ (l : List α) (m : List β), sameXL g l m = true → l.length = m.length
  | [], [], _ => rfl
  | [], _ :: _, h => by simp [sameXL] at h
  | _ :: _, [], h => by simp [sameXL] at h
  | a :: l, b :: m, h => by
    rw [sameXL, Bool.and_eq_true] at h
    rw [List.length_cons, List.length_cons, sameXL_long l m h.2]
theorem ReadsAs.weak {α : Type} {item : Ps → α × Ps} {F F' : List Tk → Prop} {K : List T3} {P : α → Prop} {c : Nat} (h : ReadsAs item F K P c) (hF : ∀ M, F' M → F M) : ReadsAs item F' K P c := fun L M n u hL hM hn => h L M n u hL (hF M hM) hn
theorem term_one {k f c : Nat} {inner : Ps → Ex (k + 1) × Ps} {K : List T3} {x : Ex f} (h : ReadsAs (factP inner) (fun _ => True) K (fun y => sameX (k + 1) f y x = true) c) :
    ReadsAs (termP inner) noAnd K (fun y => sameX (k + 2) f y x = true) c := by
  intro L M n u hL hM hn
  have hm := many_reads (item := factP inner) (F := fun _ => True) (w := andP) (g := fun y (b : Ex f) => sameX (k + 1) f y b) (K := fun _ => K) (C := fun _ => c) any_follows x [] (fun b hb => by rw [show b = x by simpa using hb]; exact h)
  obtain ⟨ys, hys, e⟩ := hm L M n u (by simpa [joinK] using hL) ⟨trivial, hM⟩ (by simpa using hn)
  have hl := sameXL_long _ _ hys
  match ys, hl with
  | [y], _ =>
    have hy : sameX (k + 1) f y x = true := by
      have : (sameX (k + 1) f y x && true) = true := hys
      simpa using this
    refine ⟨liftX (k + 1) y, sameX_trans _ _ _ _ _ _ (sameX_lift (k + 1) y) hy, ?_⟩
    unfold termP
    rw [e]
    rw [pack_one]
    simp
theorem cond_one {d f c : Nat} {K : List T3} {x : Ex f} (h : ReadsAs (termP (condP d)) noAnd K (fun y => sameX (2 * d + 2) f y x = true) c) :
    ReadsAs (condP (d + 1)) (fun M => noAnd M ∧ noOr M) K (fun y => sameX (2 * (d + 1) + 1) f y x = true) (c + 1) := by
  intro L M n u hL hM hn
  have hm := many_reads (item := termP (condP d)) (F := noAnd) (w := orP) (g := fun y (b : Ex f) => sameX (2 * d + 2) f y b) (K := fun _ => K) (C := fun _ => c) or_noAnd x [] (fun b hb => by rw [show b = x by simpa using hb]; exact h)
  obtain ⟨ys, hys, e⟩ := hm L M (n - 1) (u + 1) (by simpa [joinK] using hL) hM (by simp; omega)
  have hl := sameXL_long _ _ hys
  match ys, hl with
  | [y], _ =>
    have hy : sameX (2 * d + 2) f y x = true := by
      have : (sameX (2 * d + 2) f y x && true) = true := hys
      simpa using this
    refine ⟨liftX (2 * d + 2) y, sameX_trans _ _ _ _ _ _ (sameX_lift (2 * d + 2) y) hy, ?_⟩
    rw [condP, burn_ok rfl (by show ¬ n < 1; omega)]
    show (if (0 : Int) = 0 then (packP (2 * d + 2) 2 (manyP (termP (condP d)) orP ⟨L ++ M, n - 1, 0, u + 1⟩).1, (manyP (termP (condP d)) orP ⟨L ++ M, n - 1, 0, u + 1⟩).2) else _) = _
    rw [if_pos rfl, e, pack_one]
    show (liftX (2 * d + 2) y, (⟨M, n - 1 - _, 0, u + 1 + _⟩ : Ps)) = _
    simp
    omega
def brC (p k : Int) : Nat := if k = 2 ∨ (k = 3 ∧ p = 3) then 3 else 0
def cX : (f : Nat) → Ex f → Nat
  | 0, x => nomatch x
  | f + 1, (x : Nx (Ex f)) => if x.op = 1 then 3 else (x.kids.map fun u => cX f u + brC x.op (opX f u) + 1).sum - 1
theorem okX_pos : ∀ {f : Nat} {u : Ex f} {dd : Int}, okX f u dd = true → 1 ≤ dd
  | 0, u, _, _ => nomatch u
  | f + 1, (u : Nx (Ex f)), dd, h => by
    change (decide (1 ≤ dd) && fitsX u && u.kids.all fun v => okX f v (dd - 1)) = true at h
    simp only [Bool.and_eq_true, decide_eq_true_eq] at h
    exact h.1.1
theorem okX_op : ∀ {f : Nat} {u : Ex f} {dd : Int}, okX f u dd = true → opX f u = 1 ∨ opX f u = 2 ∨ opX f u = 3
  | 0, u, _, _ => nomatch u
  | f + 1, (u : Nx (Ex f)), dd, h => by
    change (decide (1 ≤ dd) && fitsX u && u.kids.all fun v => okX f v (dd - 1)) = true at h
    simp only [Bool.and_eq_true, decide_eq_true_eq] at h
    have hf := h.1.2
    unfold fitsX at hf
    show u.op = 1 ∨ u.op = 2 ∨ u.op = 3
    by_cases h1 : u.op = 1
    · exact .inl h1
    · rw [if_neg h1] at hf
      by_cases h2 : u.op = 2 ∨ u.op = 3
      · exact .inr h2
      · rw [if_neg h2] at hf; cases hf
theorem leaf_reads : ∀ {f : Nat} {u : Ex f} {dd : Int} {k : Nat} (inner : Ps → Ex (k + 1) × Ps), okX f u dd = true → opX f u = 1 → ReadsAs (factP inner) (fun _ => True) (toksX f u) (fun y => sameX (k + 1) f y u = true) (cX f u)
  | 0, u, _, _, _, _, _ => nomatch u
  | f + 1, (u : Nx (Ex f)), dd, k, inner, h, ho => by
    change (decide (1 ≤ dd) && fitsX u && u.kids.all fun v => okX f v (dd - 1)) = true at h
    simp only [Bool.and_eq_true, decide_eq_true_eq] at h
    have hf := h.1.2
    have ho' : u.op = 1 := ho
    unfold fitsX at hf
    rw [if_pos ho'] at hf
    simp only [Bool.and_eq_true, decide_eq_true_eq] at hf
    have hk : u.kids = [] := List.length_eq_zero_iff.1 hf.2
    rw [toks_eq, if_pos ho', show cX (f + 1) u = 3 from if_pos ho']
    intro L M n v hL hM hn
    obtain ⟨y, rfl, e⟩ := fact_reads inner u.days (textD u.days) u.mile hf.1.2 L M n v hL hM hn
    refine ⟨_, ?_, e⟩
    show (decide (1 = u.op) && decide (u.days = u.days) && decide (u.mile = u.mile) && sameXL (sameX k f) [] u.kids) = true
    rw [hk, ho']
    simp [sameXL]
theorem sum_one (l : List Nat) : (l.map (· + 1)).sum = l.sum + l.length := by
  induction l with
  | nil => rfl
  | cons a l ih => rw [List.map_cons, List.sum_cons, List.sum_cons, ih, List.length_cons]; omega
theorem expr_reads : ∀ (f : Nat) (x : Ex f) (dd : Int) (d : Nat), okX f x dd = true → dd ≤ (d : Int) + 1 →
    (opX f x ≠ 2 → ReadsAs (termP (condP d)) noAnd (toksX f x) (fun y => sameX (2 * d + 2) f y x = true) (cX f x)) ∧
    ReadsAs (condP (d + 1)) (fun M => noAnd M ∧ noOr M) (toksX f x) (fun y => sameX (2 * (d + 1) + 1) f y x = true) (cX f x + 1)
  | 0, x, _, _, _, _ => nomatch x
  | f + 1, (x : Nx (Ex f)), dd, d, hok, hd => by
    have hok0 := hok
    change (decide (1 ≤ dd) && fitsX x && x.kids.all fun v => okX f v (dd - 1)) = true at hok
    simp only [Bool.and_eq_true, decide_eq_true_eq] at hok
    obtain ⟨⟨hd1, hfit⟩, hkids⟩ := hok
    have inb : ∀ u ∈ x.kids, ReadsAs (factP (condP d)) (fun _ => True) ((4, [40], 0) :: (toksX f u ++ [(5, [41], 0)])) (fun y => sameX (2 * d + 1) f y u = true) (cX f u + 1 + 2) := fun u hu => by
      have hu' := List.all_eq_true.1 hkids u hu
      have hp := okX_pos hu'
      obtain ⟨d', rfl⟩ : ∃ d', d = d' + 1 := ⟨d - 1, by omega⟩
      exact bracket_reads (expr_reads f u (dd - 1) d' hu' (by omega)).2 close_not
    have kf : ∀ u ∈ x.kids, ReadsAs (factP (condP d)) (fun _ => True) (brT 3 (opX f u) (toksX f u)) (fun y => sameX (2 * d + 1) f y u = true) (cX f u + brC 3 (opX f u)) := fun u hu => by
      have hu' := List.all_eq_true.1 hkids u hu
      by_cases hb : opX f u = 2 ∨ (opX f u = 3 ∧ (3 : Int) = 3)
      · rw [brT, if_pos hb, brC, if_pos hb]; exact inb u hu
      · rw [brT, if_neg hb, brC, if_neg hb]
        exact leaf_reads (condP d) hu' (by rcases okX_op hu' with h | h | h; exact h; exact absurd (.inl h) hb; exact absurd (.inr ⟨h, rfl⟩) hb)
    have kt : ∀ u ∈ x.kids, ReadsAs (termP (condP d)) noAnd (brT 2 (opX f u) (toksX f u)) (fun y => sameX (2 * d + 2) f y u = true) (cX f u + brC 2 (opX f u)) := fun u hu => by
      have hu' := List.all_eq_true.1 hkids u hu
      by_cases hb : opX f u = 2 ∨ (opX f u = 3 ∧ (2 : Int) = 3)
      · rw [brT, if_pos hb, brC, if_pos hb]; exact term_one (inb u hu)
      · rw [brT, if_neg hb, brC, if_neg hb]
        exact (expr_reads f u (dd - 1) d hu' (by omega)).1 fun h => hb (.inl h)
    have hop : x.op = 1 ∨ x.op = 2 ∨ x.op = 3 := okX_op hok0
    by_cases h1 : x.op = 1
    · have ht := term_one (leaf_reads (condP d) hok0 h1)
      exact ⟨fun _ => ht, cond_one ht⟩
    unfold fitsX at hfit
    rw [if_neg h1, if_pos (by omega)] at hfit
    simp only [Bool.and_eq_true, decide_eq_true_eq] at hfit
    obtain ⟨⟨hdays, hmile⟩, hlen⟩ := hfit
    obtain ⟨b, bs, hbs⟩ : ∃ b bs, x.kids = b :: bs := by
      cases hq : x.kids with
      | nil => rw [hq] at hlen; simp at hlen
      | cons b bs => exact ⟨b, bs, rfl⟩
    have hc : ∀ p, x.op = p → cX (f + 1) x = (cX f b + brC p (opX f b)) + (bs.map fun u => cX f u + brC p (opX f u) + 1).sum := fun p hp => by
      show (if x.op = 1 then 3 else (x.kids.map fun u => cX f u + brC x.op (opX f u) + 1).sum - 1) = _
      rw [if_neg h1, hbs, hp, List.map_cons, List.sum_cons]
      omega
    by_cases h3 : x.op = 3
    · have ht : ReadsAs (termP (condP d)) noAnd (toksX (f + 1) x) (fun y => sameX (2 * d + 2) (f + 1) y x = true) (cX (f + 1) x) := by
        intro L M n u hL hM hn
        rw [toks_eq, if_neg h1, h3, hbs] at hL
        rw [hc 3 h3] at hn ⊢
        have hm := many_reads (item := factP (condP d)) (F := fun _ => True) (w := andP) (g := fun y (u : Ex f) => sameX (2 * d + 1) f y u) (K := fun u => brT 3 (opX f u) (toksX f u)) (C := fun u => cX f u + brC 3 (opX f u)) any_follows b bs (fun u hu => kf u (by rw [hbs]; exact hu))
        obtain ⟨ys, hys, e⟩ := hm L M n u hL ⟨trivial, hM⟩ hn
        refine ⟨_, ?_, by unfold termP; rw [e]⟩
        rw [pack_more _ _ _ (by rw [sameXL_long _ _ hys, ← hbs]; exact hlen)]
        show (decide (3 = x.op) && decide (0 = x.days) && decide ([] = x.mile) && sameXL (sameX (2 * d + 1) f) ys x.kids) = true
        rw [h3, hdays, hmile, hbs, hys]
        simp
      exact ⟨fun _ => ht, cond_one ht⟩
    · have h2 : x.op = 2 := by omega
      refine ⟨fun h => absurd h2 h, ?_⟩
      intro L M n u hL hM hn
      rw [toks_eq, if_neg h1, h2, hbs] at hL
      rw [hc 2 h2] at hn ⊢
      have hm := many_reads (item := termP (condP d)) (F := noAnd) (w := orP) (g := fun y (u : Ex f) => sameX (2 * d + 2) f y u) (K := fun u => brT 2 (opX f u) (toksX f u)) (C := fun u => cX f u + brC 2 (opX f u)) or_noAnd b bs (fun u hu => kt u (by rw [hbs]; exact hu))
      obtain ⟨c, hcc⟩ : ∃ c, c = cX f b + brC 2 (opX f b) + (bs.map fun u => cX f u + brC 2 (opX f u) + 1).sum := ⟨_, rfl⟩
      rw [← hcc] at hn hm ⊢
      obtain ⟨ys, hys, e⟩ := hm L M (n - 1) (u + 1) hL hM (by omega)
      refine ⟨packP (2 * d + 2) 2 ys, ?_, ?_⟩
      · show sameX (2 * d + 2 + 1) (f + 1) (packP (2 * d + 2) 2 ys) x = true
        rw [pack_more _ _ _ (by rw [sameXL_long _ _ hys, ← hbs]; exact hlen)]
        show (decide (2 = x.op) && decide (0 = x.days) && decide ([] = x.mile) && sameXL (sameX (2 * d + 2) f) ys x.kids) = true
        rw [h2, hdays, hmile, hbs, hys]
        simp
      · rw [condP, burn_ok rfl (by show ¬ n < 1; omega)]
        show (if (0 : Int) = 0 then (packP (2 * d + 2) 2 (manyP (termP (condP d)) orP ⟨L ++ M, n - 1, 0, u + 1⟩).1, (manyP (termP (condP d)) orP ⟨L ++ M, n - 1, 0, u + 1⟩).2) else _) = _
        rw [if_pos rfl, e]
        show (packP (2 * d + 2) 2 ys, (⟨M, n - 1 - (c : Int), 0, u + 1 + (c : Int)⟩ : Ps)) = _
        rw [show n - 1 - (c : Int) = n - ((c + 1 : Nat) : Int) by omega, show u + 1 + (c : Int) = u + ((c + 1 : Nat) : Int) by omega]
end
section
theorem next_bare (k : Nat) (w : List UInt8) {t : Tk} (M : List Tk) (n u : Int) {x : List UInt8} {m : Int} (h : t.bare = (k, x, m)) (hw : w = [] ∨ x = w) (hn : 1 ≤ n) : nextP k w ⟨t :: M, n, 0, u⟩ = (t, ⟨M, n - 1, 0, u + 1⟩) :=
  next_reads k w t M n u (fit_bare w h hw) hn
theorem bare_text {t : Tk} {k : Nat} {x : List UInt8} {m : Int} (h : t.bare = (k, x, m)) : t.text = x := by unfold Tk.bare at h; injection h with _ h; injection h
def ofC (c : List UInt8) : Nat := if c = [] then 1 else 2
theorem of_reads (c : List UInt8) : ReadsAs ofP (fun _ => True) (ofT c) (fun y => y = c) (ofC c) := by
  intro L M n u hL _ hn
  unfold ofT at hL
  unfold ofC at hn ⊢
  by_cases hc : c = []
  · rw [if_pos hc] at hL hn ⊢
    obtain ⟨t1, L1, rfl, h1, hL⟩ := map_cons hL
    obtain rfl : L1 = [] := by simpa using hL
    refine ⟨_, hc.symm, ?_⟩
    show ofP ⟨t1 :: M, n, 0, u⟩ = _
    unfold ofP
    rw [is_head, show headIs 1 classP (t1 :: M) = false from fit_not _ h1 (.inr ⟨by decide, by decide⟩), if_neg (by decide), next_bare 1 defaultP M n u h1 (.inr rfl) (by omega)]
    rfl
  · rw [if_neg hc] at hL hn ⊢
    obtain ⟨t1, L1, rfl, h1, hL⟩ := map_cons hL
    obtain ⟨t2, L2, rfl, h2, hL⟩ := map_cons hL
    obtain rfl : L2 = [] := by simpa using hL
    refine ⟨_, rfl, ?_⟩
    show ofP ⟨t1 :: t2 :: M, n, 0, u⟩ = _
    unfold ofP
    rw [is_head, show headIs 1 classP (t1 :: t2 :: M) = true from fit_bare _ h1 (.inr rfl), if_pos rfl, next_bare 1 classP (t2 :: M) n u h1 (.inr rfl) (by omega), next_bare 2 [] M (n - 1) (u + 1) h2 (.inl rfl) (by omega)]
    show (t2.text, (⟨M, n - 1 - 1, 0, u + 1 + 1⟩ : Ps)) = _
    rw [bare_text h2, show n - 1 - 1 = n - ((2 : Nat) : Int) by omega, show u + 1 + 1 = u + ((2 : Nat) : Int) by omega]
theorem act_reads (a : Int) (h : 1 ≤ a ∧ a ≤ 3) : ReadsAs actP (fun _ => True) [(1, actS a, 0)] (fun y => y = a) 1 := by
  intro L M n u hL _ hn
  obtain ⟨t1, L1, rfl, h1, hL⟩ := map_cons hL
  obtain rfl : L1 = [] := by simpa using hL
  refine ⟨_, rfl, ?_⟩
  show actP ⟨t1 :: M, n, 0, u⟩ = _
  unfold actP
  rw [is_head, is_head]
  rcases (show a = 1 ∨ a = 2 ∨ a = 3 by omega) with rfl | rfl | rfl
  · rw [show headIs 1 destroyP (t1 :: M) = true from fit_bare _ h1 (.inr rfl), if_pos rfl, next_bare 1 destroyP M n u h1 (.inr rfl) (by omega)]; rfl
  · rw [show headIs 1 destroyP (t1 :: M) = false from fit_not _ h1 (.inr ⟨by decide, by decide⟩), if_neg (by decide), show headIs 1 reviewP (t1 :: M) = true from fit_bare _ h1 (.inr rfl), if_pos rfl, next_bare 1 reviewP M n u h1 (.inr rfl) (by omega)]; rfl
  · rw [show headIs 1 destroyP (t1 :: M) = false from fit_not _ h1 (.inr ⟨by decide, by decide⟩), if_neg (by decide), show headIs 1 reviewP (t1 :: M) = false from fit_not _ h1 (.inr ⟨by decide, by decide⟩), if_neg (by decide), next_bare 1 keepP M n u h1 (.inr rfl) (by omega)]; rfl
def rC (f : Nat) (r : Rl f) : Nat := ofC r.cls + cX f r.when_ + 5
theorem rule_reads {f : Nat} {r : Rl f} (h : goodR f r = true) : ReadsAs ruleP (fun _ => True) (toksR f r) (fun y => sameR 17 f y r = true) (rC f r) := by
  intro L M n u hL _ hn
  unfold goodR at h
  simp only [Bool.and_eq_true, decide_eq_true_eq] at h
  obtain ⟨⟨hact, _⟩, hmay⟩ := h
  unfold mayX at hmay
  simp only [Bool.and_eq_true, decide_eq_true_eq] at hmay
  unfold toksR at hL
  obtain ⟨L1, L2, rfl, h1, hL⟩ := map_app hL
  obtain ⟨t2, L3, rfl, h2, hL⟩ := map_cons hL
  obtain ⟨L4, L5, rfl, h4, hL⟩ := map_app hL
  obtain ⟨t5, L6, rfl, h5, hL⟩ := map_cons hL
  obtain ⟨t6, L7, rfl, h6, hL⟩ := map_cons hL
  obtain ⟨t7, L8, rfl, h7, hL⟩ := map_cons hL
  obtain rfl : L8 = [] := by simpa using hL
  unfold rC at hn ⊢
  obtain ⟨c1, hc1⟩ : ∃ c, c = ofC r.cls := ⟨_, rfl⟩
  obtain ⟨c2, hc2⟩ : ∃ c, c = cX f r.when_ := ⟨_, rfl⟩
  rw [← hc1, ← hc2] at hn ⊢
  obtain ⟨a1, rfl, e1⟩ := of_reads r.cls L1 (t2 :: (L4 ++ (t5 :: t6 :: t7 :: M))) n u h1 trivial (by omega)
  rw [← hc1] at e1
  have e2 := next_bare 1 keepP (L4 ++ (t5 :: t6 :: t7 :: M)) (n - c1) (u + c1) h2 (.inr rfl) (by omega)
  obtain ⟨y, hy, e3⟩ := (expr_reads f r.when_ 8 7 hmay.1 (by decide)).2 L4 (t5 :: t6 :: t7 :: M) (n - c1 - 1) (u + c1 + 1) h4 ⟨fit_not _ h5 (.inr ⟨by decide, by decide⟩), fit_not _ h5 (.inr ⟨by decide, by decide⟩)⟩ (by rw [← hc2]; omega)
  rw [← hc2] at e3
  have e4 := next_bare 1 thenP (t6 :: t7 :: M) (n - c1 - 1 - ((c2 + 1 : Nat) : Int)) (u + c1 + 1 + ((c2 + 1 : Nat) : Int)) h5 (.inr rfl) (by omega)
  obtain ⟨a6, rfl, e5⟩ := act_reads r.act hact [t6] (t7 :: M) (n - c1 - 1 - ((c2 + 1 : Nat) : Int) - 1) (u + c1 + 1 + ((c2 + 1 : Nat) : Int) + 1) (by rw [List.map_cons, h6]; rfl) trivial (by omega)
  have e6 := next_bare 6 [] M (n - c1 - 1 - ((c2 + 1 : Nat) : Int) - 1 - ((1 : Nat) : Int)) (u + c1 + 1 + ((c2 + 1 : Nat) : Int) + 1 + ((1 : Nat) : Int)) h7 (.inl rfl) (by omega)
  refine ⟨⟨r.cls, y, r.act⟩, ?_, ?_⟩
  · show (decide (r.cls = r.cls) && decide (r.act = r.act) && sameX 17 f y r.when_) = true
    rw [show sameX 17 f y r.when_ = true from hy]
    simp
  · rw [show L1 ++ t2 :: (L4 ++ [t5, t6, t7]) ++ M = L1 ++ (t2 :: (L4 ++ (t5 :: t6 :: t7 :: M))) by simp]
    unfold ruleP
    rw [e1]
    dsimp only
    rw [e2]
    dsimp only
    have e3' : condP 8 ⟨L4 ++ (t5 :: t6 :: t7 :: M), n - c1 - 1, 0, u + c1 + 1⟩ = (y, ⟨t5 :: t6 :: t7 :: M, n - c1 - 1 - ((c2 + 1 : Nat) : Int), 0, u + c1 + 1 + ((c2 + 1 : Nat) : Int)⟩) := e3
    rw [e3']
    dsimp only
    rw [e4]
    dsimp only
    have e5' : actP ⟨t6 :: t7 :: M, n - c1 - 1 - ((c2 + 1 : Nat) : Int) - 1, 0, u + c1 + 1 + ((c2 + 1 : Nat) : Int) + 1⟩ = (r.act, ⟨t7 :: M, n - c1 - 1 - ((c2 + 1 : Nat) : Int) - 1 - ((1 : Nat) : Int), 0, u + c1 + 1 + ((c2 + 1 : Nat) : Int) + 1 + ((1 : Nat) : Int)⟩) := e5
    rw [e5']
    dsimp only
    rw [e6]
    dsimp only
    rw [show n - (c1 : Int) - 1 - ((c2 + 1 : Nat) : Int) - 1 - ((1 : Nat) : Int) - 1 = n - ((c1 + c2 + 5 : Nat) : Int) by omega, show u + (c1 : Int) + 1 + ((c2 + 1 : Nat) : Int) + 1 + ((1 : Nat) : Int) + 1 = u + ((c1 + c2 + 5 : Nat) : Int) by omega]
theorem toks_some (f : Nat) (r : Rl f) : 1 ≤ (toksR f r).length := by unfold toksR; simp; omega
theorem rules_reads {f : Nat} : ∀ (l : List (Rl f)), (∀ r ∈ l, goodR f r = true) → ∀ (G : Nat) (acc : List (Rl 17)) (L : List Tk) (n u : Int), l.length ≤ G → L.map Tk.bare = l.flatMap (toksR f) → (((l.map (rC f)).sum : Nat) : Int) ≤ n →
    ∃ ys, sameXL (sameR 17 f) ys l = true ∧ rulesP G acc ⟨L, n, 0, u⟩ = (acc ++ ys, ⟨[], n - (((l.map (rC f)).sum : Nat) : Int), 0, u + (((l.map (rC f)).sum : Nat) : Int)⟩)
  | [], _, G, acc, L, n, u, hG, hL, hn => by
    obtain rfl : L = [] := by simpa using hL
    refine ⟨[], rfl, ?_⟩
    have e : rulesP G acc ⟨[], n, 0, u⟩ = (acc, ⟨[], n, 0, u⟩) := by
      cases G with
      | zero => rfl
      | succ G => rw [rulesP, if_neg (fun h => h.2 rfl)]
    rw [e]
    simp
  | r :: l, hg, G, acc, L, n, u, hG, hL, hn => by
    rw [List.flatMap_cons] at hL
    obtain ⟨L1, L2, rfl, h1, h2⟩ := map_app hL
    rw [List.map_cons, List.sum_cons] at hn ⊢
    obtain ⟨S, hS⟩ : ∃ S, S = (l.map (rC f)).sum := ⟨_, rfl⟩
    cases G with
    | zero => simp at hG
    | succ G =>
      obtain ⟨y, hy, e1⟩ := rule_reads (hg r (by simp)) L1 L2 n u h1 trivial (by omega)
      obtain ⟨ys, hys, e2⟩ := rules_reads l (fun x h => hg x (by simp [h])) G (acc ++ [y]) L2 (n - rC f r) (u + rC f r) (by simpa using hG) h2 (by omega)
      refine ⟨y :: ys, by rw [sameXL, hy, hys]; rfl, ?_⟩
      have hne : L1 ++ L2 ≠ [] := fun h => by
        have h3 : L1 = [] := (List.append_eq_nil_iff.1 h).1
        have := toks_some f r
        rw [← h1, h3] at this
        simp at this
      rw [rulesP, if_pos ⟨rfl, hne⟩, e1, e2, ← hS, List.append_assoc, List.singleton_append]
      rw [show n - (rC f r : Int) - (S : Int) = n - ((rC f r + S : Nat) : Int) by omega, show u + (rC f r : Int) + (S : Int) = u + ((rC f r + S : Nat) : Int) by omega]
end
section
theorem tail_step (s y : List UInt8) (r : List (List UInt8)) : (Lib.joinTail s (y :: r)).length = s.length + y.length + (Lib.joinTail s r).length := by
  unfold Lib.joinTail
  rw [List.map_cons, List.flatten_cons, List.length_append, List.length_append]
theorem cost_len : ∀ (f : Nat) (x : Ex f) (d : Int), okX f x d = true → cX f x + 3 ≤ (exprX f x).length
  | 0, x, _, _ => nomatch x
  | f + 1, (x : Nx (Ex f)), d, h => by
    have ih := fun u d h => cost_len f u d h
    have hop : x.op = 1 ∨ x.op = 2 ∨ x.op = 3 := okX_op h
    have hf := ok_fits h
    rw [expr_eq, show cX (f + 1) x = if x.op = 1 then 3 else (x.kids.map fun u => cX f u + brC x.op (opX f u) + 1).sum - 1 from rfl]
    by_cases h1 : x.op = 1
    · rw [if_pos h1, if_pos h1]
      unfold afterW
      simp only [List.length_append, List.length_cons, List.length_nil]
      omega
    · rw [if_neg h1, if_neg h1]
      unfold fitsX at hf
      rw [if_neg h1, if_pos (by omega)] at hf
      simp only [Bool.and_eq_true, decide_eq_true_eq] at hf
      have hk : ∀ u ∈ x.kids, cX f u + brC x.op (opX f u) + 2 ≤ (brX x.op (opX f u) (exprX f u)).length := fun u hu => by
        have := ih u (d - 1) (ok_kid h hu)
        unfold brC brX
        by_cases hb : opX f u = 2 ∨ (opX f u = 3 ∧ x.op = 3)
        · rw [if_pos hb, if_pos hb]; simp; omega
        · rw [if_neg hb, if_neg hb]; omega
      have hsep : 4 ≤ (sepX x.op).length := by unfold sepX; split <;> decide
      have hlen := hf.2
      cases hq : x.kids with
      | nil => rw [hq] at hlen; simp at hlen
      | cons b bs =>
        rw [hq] at hk hlen
        have key : ∀ ks : List (Ex f), (∀ u ∈ ks, cX f u + brC x.op (opX f u) + 2 ≤ (brX x.op (opX f u) (exprX f u)).length) → (ks.map fun u => cX f u + brC x.op (opX f u) + 1).sum + 5 * ks.length ≤ (Lib.joinTail (sepX x.op) (ks.map fun u => brX x.op (opX f u) (exprX f u))).length := by
          intro ks
          induction ks with
          | nil => intro _; simp
          | cons u ks ihk =>
            intro hks
            have h2 := ihk fun v hv => hks v (by simp [hv])
            have h3 := hks u (by simp)
            rw [List.map_cons, List.sum_cons, List.map_cons, tail_step, List.length_cons]
            omega
        have h2 := key bs fun v hv => hk v (by simp [hv])
        have h3 := hk b (by simp)
        rw [List.map_cons, List.map_cons, List.sum_cons, Lib.join_cons, List.length_append]
        simp at hlen
        omega
theorem rule_len {f : Nat} {r : Rl f} (h : goodR f r = true) : rC f r ≤ (lineR f r).length := by
  unfold goodR at h
  simp only [Bool.and_eq_true, decide_eq_true_eq] at h
  have hm := h.2
  unfold mayX at hm
  simp only [Bool.and_eq_true, decide_eq_true_eq] at hm
  have := cost_len f r.when_ 8 hm.1
  unfold rC lineR keepW thenW
  simp only [List.length_append, List.length_cons, List.length_nil]
  have : ofC r.cls ≤ 2 := by unfold ofC; split <;> omega
  omega
theorem rules_len {f : Nat} : ∀ (l : List (Rl f)), (∀ r ∈ l, goodR f r = true) → (l.map (rC f)).sum ≤ (l.flatMap (lineR f)).length
  | [], _ => by simp
  | r :: l, h => by
    rw [List.map_cons, List.sum_cons, List.flatMap_cons, List.length_append]
    have := rule_len (h r (by simp))
    have := rules_len l fun x hx => h x (by simp [hx])
    omega
theorem same_may : ∀ (g f : Nat) (y : Ex g) (x : Ex f), sameX g f y x = true → (∀ d, okX g y d = okX f x d) ∧ nodesX g y = nodesX f x
  | 0, _, y, _, _ => nomatch y
  | _ + 1, 0, _, x, _ => nomatch x
  | g + 1, f + 1, (y : Nx (Ex g)), (x : Nx (Ex f)), h => by
    change (decide (y.op = x.op) && decide (y.days = x.days) && decide (y.mile = x.mile) && sameXL (sameX g f) y.kids x.kids) = true at h
    simp only [Bool.and_eq_true, decide_eq_true_eq] at h
    obtain ⟨⟨⟨h1, h2⟩, h3⟩, h4⟩ := h
    have key : ∀ (l : List (Ex g)) (m : List (Ex f)), sameXL (sameX g f) l m = true → (∀ d, (l.all fun u => okX g u d) = (m.all fun u => okX f u d)) ∧ (l.map (nodesX g)).sum = (m.map (nodesX f)).sum := by
      intro l
      induction l with
      | nil =>
        intro m hm
        cases m with
        | nil => exact ⟨fun _ => rfl, rfl⟩
        | cons b m => simp [sameXL] at hm
      | cons a l ih =>
        intro m hm
        cases m with
        | nil => simp [sameXL] at hm
        | cons b m =>
          rw [sameXL, Bool.and_eq_true] at hm
          obtain ⟨g1, g2⟩ := same_may g f a b hm.1
          obtain ⟨g3, g4⟩ := ih m hm.2
          exact ⟨fun d => by rw [List.all_cons, List.all_cons, g1 d, g3 d], by rw [List.map_cons, List.map_cons, List.sum_cons, List.sum_cons, g2, g4]⟩
    obtain ⟨k1, k2⟩ := key _ _ h4
    have hl := sameXL_long _ _ h4
    have hfit : fitsX y = fitsX x := by unfold fitsX; rw [h1, h2, h3, hl]
    refine ⟨fun d => ?_, ?_⟩
    · show (decide (1 ≤ d) && fitsX y && y.kids.all fun u => okX g u (d - 1)) = (decide (1 ≤ d) && fitsX x && x.kids.all fun u => okX f u (d - 1))
      rw [hfit, k1]
    · show 1 + (y.kids.map (nodesX g)).sum = 1 + (x.kids.map (nodesX f)).sum
      rw [k2]
theorem same_good {g f : Nat} {a : Rl g} {b : Rl f} (h : sameR g f a b = true) : goodR g a = goodR f b := by
  unfold sameR at h
  simp only [Bool.and_eq_true, decide_eq_true_eq] at h
  obtain ⟨h1, h2⟩ := same_may g f _ _ h.2
  unfold goodR mayX
  rw [h.1.1, h.1.2, h1, h2]
theorem same_check {g f : Nat} (l : List (Rl g)) (m : List (Rl f)) (h : sameXL (sameR g f) l m = true) : checkR g l = checkR f m := by
  have hl := sameXL_long _ _ h
  have key : ∀ (l : List (Rl g)) (m : List (Rl f)), sameXL (sameR g f) l m = true → l.all (goodR g) = m.all (goodR f) ∧ l.map (·.cls) = m.map (·.cls) := by
    intro l
    induction l with
    | nil =>
      intro m hm
      cases m with
      | nil => exact ⟨rfl, rfl⟩
      | cons b m => simp [sameXL] at hm
    | cons a l ih =>
      intro m hm
      cases m with
      | nil => simp [sameXL] at hm
      | cons b m =>
        rw [sameXL, Bool.and_eq_true] at hm
        obtain ⟨g3, g4⟩ := ih m hm.2
        have g1 := same_good hm.1
        have h1 := hm.1
        unfold sameR at h1
        simp only [Bool.and_eq_true, decide_eq_true_eq] at h1
        exact ⟨by rw [List.all_cons, List.all_cons, g1, g3], by rw [List.map_cons, List.map_cons, h1.1.1, g4]⟩
  obtain ⟨k1, k2⟩ := key l m h
  unfold checkR
  rw [hl, k1, k2]
theorem parse_back {f : Nat} {l : List (Rl f)} (h : (printR f l).2 = 0) (n : Int) (hn : 600 ≤ n) : ∃ ys u, readP (printR f l).1 n = (ys, (printR f l).1.length, 0, u) ∧ sameXL (sameR 17 f) ys l = true := by
  obtain ⟨L, hL, ha⟩ := all_print h
  have h0 := h
  unfold printR at h
  by_cases hz : checkR f l = 0
  case neg => rw [if_neg hz] at h; exact absurd h hz
  rw [if_pos hz] at h
  by_cases h6 : 600 < (l.flatMap (lineR f)).length
  · rw [if_pos h6] at h; exact absurd h (by decide)
  have hg : ∀ r ∈ l, goodR f r = true := by
    unfold checkR at hz
    by_cases h1 : 12 < l.length
    · rw [if_pos h1] at hz; omega
    · rw [if_neg h1] at hz
      by_cases h2 : l.all (goodR f) = false
      · rw [if_pos h2] at hz; omega
      · exact fun r hr => List.all_eq_true.1 (by simpa using h2) r hr
  have hc := rules_len l hg
  have hll : l.length ≤ L.length := by
    have e : L.length = (l.flatMap (toksR f)).length := by rw [← hL, List.length_map]
    rw [e]
    clear e hL ha h0 h hz h6 hg hc
    induction l with
    | nil => simp
    | cons r l ih =>
      have := toks_some f r
      rw [List.flatMap_cons, List.length_append, List.length_cons]
      omega
  obtain ⟨ys, hys, e⟩ := rules_reads l hg L.length [] L n 0 hll hL (by omega)
  refine ⟨ys, 0 + (((l.map (rC f)).sum : Nat) : Int), ?_, hys⟩
  unfold readP
  rw [ha]
  dsimp only
  rw [if_pos rfl, e]
  dsimp only
  rw [if_pos rfl, List.nil_append, if_pos ((same_check _ _ hys).trans hz)]
end
section
open Go.RowKit
set_option maxHeartbeats 4000000 in
theorem left_any (S : Nat → Prop) : ∀ (f : Nat) (t : Ex f) (v : Value) (n d : Int) (w : World), -1 ≤ n → n ≤ 1000 → -1000 ≤ d → d ≤ 1000 → EV w S f v t →
    Calls Tryd.prog 25 #[v, .int .i64 n, .int .i64 d] w fun e w' => e = .returned (.int .i64 (leftX f t n d)) ∧ Below w.heap.size w w' := by
  intro f
  induction f with
  | zero => intro t; exact nomatch t
  | succ f ih =>
    intro t v n d w hn hn2 hd hd2 hv
    obtain ⟨c0, c1, c2, c3, rfl, rfl, hk, rfl, hdy, rfl, hml, hks⟩ := hv
    obtain ⟨A3, cap3, e3, hl3, hm3, _⟩ := id hks
    subst e3
    obtain ⟨r, hr⟩ : ∃ r, r = leftX (f + 1) t n d := ⟨_, rfl⟩
    rw [← hr]
    have HR := Lib.hid hr
    clear hr
    have hw := rword_any (t : Nx (Ex f)).mile hml
    have HU := Lib.hid (fun h => HR.out.trans (left_unfit (t : Nx (Ex f)) (n := n) (d := d) h))
    have HU1 : Hid ((t : Nx (Ex f)).op ≠ 1 → (t : Nx (Ex f)).op ≠ 2 → (t : Nx (Ex f)).op ≠ 3 → r = -1) := fun a b c => HU.out (unfit_op a b c)
    have HU2 : Hid ((t : Nx (Ex f)).op = 1 → (t : Nx (Ex f)).days < 0 → r = -1) := fun a b => HU.out (unfit_low a b)
    have HU3 : Hid ((t : Nx (Ex f)).op = 1 → 1048576 < (t : Nx (Ex f)).days → r = -1) := fun a b => HU.out (unfit_high a b)
    have HU4 : Hid ((t : Nx (Ex f)).op = 1 → wordS (t : Nx (Ex f)).mile = false → r = -1) := fun a b => HU.out (unfit_word a b)
    have HU5 : Hid ((t : Nx (Ex f)).op = 1 → 0 < (t : Nx (Ex f)).kids.length → r = -1) := fun a b => HU.out (unfit_kids a b)
    have HY1 : Hid ((t : Nx (Ex f)).op = 1 → 0 ≤ (t : Nx (Ex f)).days → (t : Nx (Ex f)).days ≤ 1048576 → wordS (t : Nx (Ex f)).mile = true → (t : Nx (Ex f)).kids.length = 0 → 1 ≤ n → 1 ≤ d → r = n - 1) := fun a b c e g h i => HR.out.trans (left_one (t : Nx (Ex f)) (fit_one a b c e g) g h i)
    have HU6 : Hid ((t : Nx (Ex f)).op ≠ 1 → (t : Nx (Ex f)).days ≠ 0 → r = -1) := fun a b => HU.out (unfit_days a b)
    have HU7 : Hid ((t : Nx (Ex f)).op ≠ 1 → (t : Nx (Ex f)).mile ≠ [] → r = -1) := fun a b => HU.out (unfit_mile a b)
    have HU8 : Hid ((t : Nx (Ex f)).op ≠ 1 → (t : Nx (Ex f)).kids.length < 2 → r = -1) := fun a b => HU.out (unfit_few a b)
    have HU9 : Hid (n - 1 < ((t : Nx (Ex f)).kids.length : Int) → r = -1) := fun a => HR.out.trans (left_wide (t : Nx (Ex f)) a)
    have HF : Hid ((t : Nx (Ex f)).op ≠ 1 → ((t : Nx (Ex f)).op = 2 ∨ (t : Nx (Ex f)).op = 3) → (t : Nx (Ex f)).days = 0 → (t : Nx (Ex f)).mile = [] → ¬ (t : Nx (Ex f)).kids.length < 2 → 1 ≤ d →
      (∀ m : Int, ((((t : Nx (Ex f)).kids.take (t : Nx (Ex f)).kids.length).all fun u => okX f u (d - 1)) = true) → m = n - 1 - (sumX f (t : Nx (Ex f)).kids (t : Nx (Ex f)).kids.length : Int) → 0 ≤ m → r = m)) :=
      fun a b c e g h m h1 h2 h3 => HR.out.trans (left_all (t : Nx (Ex f)) (fit_many a b c e g) h h1 h2 h3)
    have HST : Hid (∀ (m : Int) (j : Nat) (hj : j < (t : Nx (Ex f)).kids.length), m = n - 1 - (sumX f (t : Nx (Ex f)).kids j : Int) → leftX f (t : Nx (Ex f)).kids[j] m (d - 1) < 0 → r = -1) := fun m j hj h1 h2 => HR.out.trans (left_stop (t : Nx (Ex f)) hj h1 h2)
    have HGO : Hid (∀ (m : Int) (j : Nat) (hj : j < (t : Nx (Ex f)).kids.length), m = n - 1 - (sumX f (t : Nx (Ex f)).kids j : Int) → (((t : Nx (Ex f)).kids.take j).all fun u => okX f u (d - 1)) = true → 0 ≤ leftX f (t : Nx (Ex f)).kids[j] m (d - 1) →
      leftX f (t : Nx (Ex f)).kids[j] m (d - 1) = n - 1 - (sumX f (t : Nx (Ex f)).kids (j + 1) : Int) ∧ (((t : Nx (Ex f)).kids.take (j + 1)).all fun u => okX f u (d - 1)) = true) := fun m j hj h1 h2 h3 => left_step (t : Nx (Ex f)) hj h1 h2 h3
    have HLO : Hid (n < 1 → r = -1) := fun h => HR.out.trans (left_low t h)
    have HFL : Hid (d < 1 → r = -1) := fun h => HR.out.trans (left_flat (t : Nx (Ex f)) h)
    clear HU HR
    generalize (t : Nx (Ex f)).op = k at *
    generalize (t : Nx (Ex f)).days = dy at *
    generalize (t : Nx (Ex f)).mile = l at *
    generalize (t : Nx (Ex f)).kids = ks at *
    clear t
    have hlen : ks.length ≤ 9223372036854775807 := by unfold maxLen at hm3; omega
    have hk1 := hk.1
    have hk2 := hk.2
    have W1 : wrap64 (n - 1) = n - 1 := IntWalk.wrap64_in _ (by omega)
    have W2 : wrap64 (d - 1) = d - 1 := IntWalk.wrap64_in _ (by omega)
    have I1 : IntKind.i64.wrap (n - 1) = n - 1 := by rw [IntKind.wrap_i64]; omega
    have I2 : IntKind.i64.wrap (d - 1) = d - 1 := by rw [IntKind.wrap_i64]; omega
    have HM := Lib.hid (ne_not ⟨l.toArray⟩ l [] rfl)
    have HM2 := Lib.hid (ne_if ⟨l.toArray⟩ l [] rfl)
    unfold strV at *
    obtain ⟨s, hs⟩ : ∃ s : ByteArray, s = ⟨l.toArray⟩ := ⟨_, rfl⟩
    rw [← hs] at hw HM HM2 ⊢
    clear hs
    obtain ⟨kl, hkl⟩ : ∃ kl, kl = ks.length := ⟨_, rfl⟩
    rw [← hkl] at hks hl3 hlen HU5 HY1 HU8 HU9 ⊢
    have HKL := Lib.hid hkl
    clear hkl
    have kb := KB.new w 37 #[.int .i64 k, .int .i64 dy, .string s, .slice A3 kl cap3]
    have B0 := (Below.refl w.heap.size w).alloc (Nat.le_refl _) (.cells #[.int .i64 k, .int .i64 dy, .string s, .slice A3 kl cap3] 37)
    by_cases h1 : n < 1
    · obtain rfl := HLO.out h1
      have E := decide_eq_true h1
      clear HLO HFL HU1 HU2 HU3 HU4 HU5 HU6 HU7 HU8 HU9 HY1 HF HST HGO HM HM2 hw
      go_enter Tryd.func25, Tryd.ntmps25
      go_wp2_with fail
      go_ret
      exact ⟨rfl, B0⟩
    have E1 : decide (n < 1) = false := decide_eq_false h1
    by_cases h2 : d < 1
    · obtain rfl := HFL.out h2
      have E := decide_eq_true h2
      clear HLO HFL HU1 HU2 HU3 HU4 HU5 HU6 HU7 HU8 HU9 HY1 HF HST HGO HM HM2 hw
      go_enter Tryd.func25, Tryd.ntmps25
      go_wp2_with fail
      go_ret
      exact ⟨rfl, B0⟩
    have E2 : decide (d < 1) = false := decide_eq_false h2
    clear HLO HFL
    by_cases h3 : k = 1
    · subst h3
      clear HU1 HU6 HU7 HU8 HU9 HF HST HGO HM HM2 ih
      by_cases h4 : dy < 0
      · obtain rfl := HU2.out rfl h4
        have E := decide_eq_true h4
        clear HU2 HU3 HU4 HU5 HY1 hw
        go_enter Tryd.func25, Tryd.ntmps25
        go_wp2_with fail
        go_ret
        exact ⟨rfl, B0⟩
      have E4 : decide (dy < 0) = false := decide_eq_false h4
      by_cases h5 : 1048576 < dy
      · obtain rfl := HU3.out rfl h5
        have E := decide_eq_true h5
        clear HU2 HU3 HU4 HU5 HY1 hw
        go_enter Tryd.func25, Tryd.ntmps25
        go_wp2_with fail
        go_ret
        exact ⟨rfl, B0⟩
      have E5 : decide (1048576 < dy) = false := decide_eq_false h5
      generalize wordS l = wd at *
      cases wd with
      | false =>
        obtain rfl := HU4.out rfl rfl
        clear HU2 HU3 HU4 HU5 HY1
        go_enter Tryd.func25, Tryd.ntmps25
        go_wp2_with fail
        refine (hw _).mono ?_
        rintro e w1 ⟨rfl, rfl⟩
        go_wp2_with fail
        go_ret
        exact ⟨rfl, B0⟩
      | true =>
        by_cases h6 : 0 < kl
        · obtain rfl := HU5.out rfl h6
          have E6 : decide ((0 : Int) < (kl : Int)) = true := decide_eq_true (by omega)
          have E6' : decide (0 < kl) = true := decide_eq_true h6
          clear HU2 HU3 HU4 HU5 HY1
          go_enter Tryd.func25, Tryd.ntmps25
          go_wp2_with fail
          refine (hw _).mono ?_
          rintro e w1 ⟨rfl, rfl⟩
          go_wp2_with fail
          go_ret
          exact ⟨rfl, B0⟩
        · obtain rfl := HY1.out rfl (by omega) (by omega) rfl (by omega) (by omega) (by omega)
          have E6 : decide ((0 : Int) < (kl : Int)) = false := decide_eq_false (by omega)
          have E6' : decide (0 < kl) = false := decide_eq_false h6
          clear HU2 HU3 HU4 HU5 HY1
          go_enter Tryd.func25, Tryd.ntmps25
          go_wp2_with fail
          refine (hw _).mono ?_
          rintro e w1 ⟨rfl, rfl⟩
          go_wp2_with fail
          go_ret
          exact ⟨rfl, B0⟩
    have E3 : (k == 1) = false := beq_eq_false_iff_ne.2 h3
    clear HU2 HU3 HU4 HU5 HY1 hw
    by_cases h4 : k = 2 ∨ k = 3
    case neg =>
      obtain rfl := HU1.out h3 (fun h => h4 (.inl h)) (fun h => h4 (.inr h))
      have E4 : (k != 2) = true := bne_iff_ne.2 (fun h => h4 (.inl h))
      have E5 : (k != 3) = true := bne_iff_ne.2 (fun h => h4 (.inr h))
      clear HU1 HU6 HU7 HU8 HU9 HF HST HGO HM HM2 ih
      go_enter Tryd.func25, Tryd.ntmps25
      go_wp2_with fail
      go_ret
      exact ⟨rfl, B0⟩
    clear HU1
    obtain ⟨b2, E4⟩ : ∃ b, (k != 2) = b := ⟨_, rfl⟩
    have E5 : b2 = true → (k != 3) = false := by
      intro h
      rw [h] at E4
      have := bne_iff_ne.1 E4
      rcases h4 with h4 | h4
      · exact absurd h4 this
      · rw [h4]; rfl
    by_cases h5 : dy = 0
    case neg =>
      obtain rfl := HU6.out h3 h5
      have E6 : (dy != 0) = true := bne_iff_ne.2 h5
      clear HU6 HU7 HU8 HU9 HF HST HGO HM HM2 ih
      go_enter Tryd.func25, Tryd.ntmps25
      cases b2 with
      | true =>
        replace E5 := E5 rfl
        go_wp2_with fail
        go_ret
        exact ⟨rfl, B0⟩
      | false =>
        clear E5
        go_wp2_with fail
        go_ret
        exact ⟨rfl, B0⟩
    subst h5
    clear HU6
    by_cases h6 : l = []
    case neg =>
      obtain rfl := HU7.out h3 h6
      have E6 := (HM2.out h6).2.2
      clear HU7 HU8 HU9 HF HST HGO HM HM2 ih
      go_enter Tryd.func25, Tryd.ntmps25
      cases b2 with
      | true =>
        replace E5 := E5 rfl
        go_wp2_with fail
        go_ret
        exact ⟨rfl, B0⟩
      | false =>
        clear E5
        go_wp2_with fail
        go_ret
        exact ⟨rfl, B0⟩
    have E6 := (HM.out h6).2.2
    clear HU7 HM HM2
    by_cases h7 : kl < 2
    · obtain rfl := HU8.out h3 h7
      have E8 : decide ((kl : Int) < 2) = true := decide_eq_true (by omega)
      have E9 : decide (kl < 2) = true := decide_eq_true h7
      clear HU8 HU9 HF HST HGO ih
      go_enter Tryd.func25, Tryd.ntmps25
      cases b2 with
      | true =>
        replace E5 := E5 rfl
        go_wp2_with fail
        go_ret
        exact ⟨rfl, B0⟩
      | false =>
        clear E5
        go_wp2_with fail
        go_ret
        exact ⟨rfl, B0⟩
    have E8 : decide ((kl : Int) < 2) = false := decide_eq_false (by omega)
    have E9 : decide (kl < 2) = false := decide_eq_false h7
    by_cases h8 : n - 1 < (kl : Int)
    · obtain rfl := HU9.out h8
      have E10 : decide (n - 1 < (kl : Int)) = true := decide_eq_true h8
      clear HU8 HU9 HF HST HGO ih
      go_enter Tryd.func25, Tryd.ntmps25
      cases b2 with
      | true =>
        replace E5 := E5 rfl
        go_wp2_with fail
        go_ret
        exact ⟨rfl, B0⟩
      | false =>
        clear E5
        go_wp2_with fail
        go_ret
        exact ⟨rfl, B0⟩
    have E10 : decide (n - 1 < (kl : Int)) = false := decide_eq_false h8
    have HF2 := Lib.hid (HF.out h3 h4 rfl h6 (by rw [← HKL.out]; exact h7) (by omega))
    have HD2 := Lib.hid h2
    clear HU8 HU9 HF h4 h6
    go_enter Tryd.func25, Tryd.ntmps25
    cases b2 with
    | true =>
      replace E5 := E5 rfl
      go_wp2_with fail
      clear E1 E2 E3 E4 E5 E6 E8 E9 E10
      go_loopw [1, 7] (fun mv iv wr => ∃ (m : Int) (j : Nat), -1 ≤ m ∧ m ≤ 1000 ∧ j ≤ kl ∧ mv = .int .i64 m ∧ iv = .int .i64 j ∧
        Hid ((0 ≤ m ∧ m = n - 1 - (sumX f ks j : Int) ∧ ((ks.take j).all fun u => okX f u (d - 1)) = true) ∨ (m < 0 ∧ r = -1 ∧ m = -1)) ∧
        KB wr w.heap.size 37 #[.int .i64 k, .int .i64 0, .string s, .slice A3 kl cap3] ∧ Below w.heap.size w wr) (fun _ iv _ => kl - (intOf iv).toNat)
      case atStart => exact ⟨n - 1, 0, by omega, by omega, by omega, rfl, rfl, .inl ⟨by omega, by unfold sumX; simp, rfl⟩, kb, B0⟩
      case round =>
        obtain ⟨m, j, hm1, hm2, hj, rfl, rfl, hst, K, B⟩ := hrel
        have q3 : wr.cell? ⟨w.heap.size, 3, none⟩ = some (.slice A3 kl cap3) := K.cell 3
        by_cases hlt : j < kl
        · have hltI : (j : Int) < (kl : Int) := by omega
          by_cases hm0 : 0 ≤ m
          · have hst1 : m = n - 1 - (sumX f ks j : Int) ∧ ((ks.take j).all fun u => okX f u (d - 1)) = true := by
              rcases hst.out with h | h
              · exact h.2
              · omega
            have hjk : j < ks.length := by rw [← HKL.out]; exact hlt
            obtain ⟨b, o, e0, e1, e2, e3, rfl, _, k0, k1, k2, k3, hv⟩ := kid_x hks HKL.out.symm B.size (fun b sb hb => B.block b hb) j hjk
            have hc := ih ks[j] (.agg #[e0, e1, e2, e3]) m (d - 1) wr hm1 hm2 (by omega) (by omega) ⟨e0, e1, e2, e3, rfl, hv⟩
            have hb := left_le ks[j] m (d - 1) hm1
            have HS : Hid (leftX f ks[j] m (d - 1) < 0 → r = -1) := fun h => HST.out m j hjk hst1.1 h
            have HG : Hid (0 ≤ leftX f ks[j] m (d - 1) → leftX f ks[j] m (d - 1) = n - 1 - (sumX f ks (j + 1) : Int) ∧ ((ks.take (j + 1)).all fun u => okX f u (d - 1)) = true) := fun h => HGO.out m j hjk hst1.1 hst1.2 h
            clear hv hst hst1
            generalize leftX f ks[j] m (d - 1) = m5 at *
            go_wp2_with fail
            refine hc.mono ?_
            rintro e w5 ⟨rfl, b5⟩
            have K5 := K.below b5 K.lt
            have B5 := B.trans (b5.mono B.size)
            have HW : Hid ((0 ≤ m5 ∧ m5 = n - 1 - (sumX f ks (j + 1) : Int) ∧ ((ks.take (j + 1)).all fun u => okX f u (d - 1)) = true) ∨ (m5 < 0 ∧ r = -1 ∧ m5 = -1)) := by
              by_cases h : 0 ≤ m5
              · exact .inl ⟨h, HG.out h⟩
              · exact .inr ⟨by omega, HS.out (by omega), by omega⟩
            clear hc HS HG hjk
            go_wp2_with fail
            go_roundw
            case rel => exact ⟨m5, j + 1, by omega, by omega, by omega, rfl, by go_num, HW, K5, B5⟩
            case measure => simp [intOf]; omega
          · have hr : r = -1 ∧ m = -1 := by
              rcases hst.out with h | h
              · omega
              · exact h.2
            obtain ⟨rfl, rfl⟩ := hr
            clear hst HF2 HST HGO
            go_wp2_with fail
            go_ret
            exact ⟨rfl, B⟩
        · obtain rfl : j = kl := by omega
          have hr : r = m := by
            rcases hst.out with h | h
            · have e := HKL.out
              rw [e] at h
              exact HF2.out m h.2.2 h.2.1 h.1
            · rw [h.2.1, h.2.2]
          subst hr
          clear hst HF2 HST HGO
          go_wp2_with fail
          go_ret
          exact ⟨rfl, B⟩
    | false =>
      clear E5
      go_wp2_with fail
      clear E1 E2 E3 E4 E6 E8 E9 E10
      go_loopw [1, 7] (fun mv iv wr => ∃ (m : Int) (j : Nat), -1 ≤ m ∧ m ≤ 1000 ∧ j ≤ kl ∧ mv = .int .i64 m ∧ iv = .int .i64 j ∧
        Hid ((0 ≤ m ∧ m = n - 1 - (sumX f ks j : Int) ∧ ((ks.take j).all fun u => okX f u (d - 1)) = true) ∨ (m < 0 ∧ r = -1 ∧ m = -1)) ∧
        KB wr w.heap.size 37 #[.int .i64 k, .int .i64 0, .string s, .slice A3 kl cap3] ∧ Below w.heap.size w wr) (fun _ iv _ => kl - (intOf iv).toNat)
      case atStart => exact ⟨n - 1, 0, by omega, by omega, by omega, rfl, rfl, .inl ⟨by omega, by unfold sumX; simp, rfl⟩, kb, B0⟩
      case round =>
        obtain ⟨m, j, hm1, hm2, hj, rfl, rfl, hst, K, B⟩ := hrel
        have q3 : wr.cell? ⟨w.heap.size, 3, none⟩ = some (.slice A3 kl cap3) := K.cell 3
        by_cases hlt : j < kl
        · have hltI : (j : Int) < (kl : Int) := by omega
          by_cases hm0 : 0 ≤ m
          · have hst1 : m = n - 1 - (sumX f ks j : Int) ∧ ((ks.take j).all fun u => okX f u (d - 1)) = true := by
              rcases hst.out with h | h
              · exact h.2
              · omega
            have hjk : j < ks.length := by rw [← HKL.out]; exact hlt
            obtain ⟨b, o, e0, e1, e2, e3, rfl, _, k0, k1, k2, k3, hv⟩ := kid_x hks HKL.out.symm B.size (fun b sb hb => B.block b hb) j hjk
            have hc := ih ks[j] (.agg #[e0, e1, e2, e3]) m (d - 1) wr hm1 hm2 (by omega) (by omega) ⟨e0, e1, e2, e3, rfl, hv⟩
            have hb := left_le ks[j] m (d - 1) hm1
            have HS : Hid (leftX f ks[j] m (d - 1) < 0 → r = -1) := fun h => HST.out m j hjk hst1.1 h
            have HG : Hid (0 ≤ leftX f ks[j] m (d - 1) → leftX f ks[j] m (d - 1) = n - 1 - (sumX f ks (j + 1) : Int) ∧ ((ks.take (j + 1)).all fun u => okX f u (d - 1)) = true) := fun h => HGO.out m j hjk hst1.1 hst1.2 h
            clear hv hst hst1
            generalize leftX f ks[j] m (d - 1) = m5 at *
            go_wp2_with fail
            refine hc.mono ?_
            rintro e w5 ⟨rfl, b5⟩
            have K5 := K.below b5 K.lt
            have B5 := B.trans (b5.mono B.size)
            have HW : Hid ((0 ≤ m5 ∧ m5 = n - 1 - (sumX f ks (j + 1) : Int) ∧ ((ks.take (j + 1)).all fun u => okX f u (d - 1)) = true) ∨ (m5 < 0 ∧ r = -1 ∧ m5 = -1)) := by
              by_cases h : 0 ≤ m5
              · exact .inl ⟨h, HG.out h⟩
              · exact .inr ⟨by omega, HS.out (by omega), by omega⟩
            clear hc HS HG hjk
            go_wp2_with fail
            go_roundw
            case rel => exact ⟨m5, j + 1, by omega, by omega, by omega, rfl, by go_num, HW, K5, B5⟩
            case measure => simp [intOf]; omega
          · have hr : r = -1 ∧ m = -1 := by
              rcases hst.out with h | h
              · omega
              · exact h.2
            obtain ⟨rfl, rfl⟩ := hr
            clear hst HF2 HST HGO
            go_wp2_with fail
            go_ret
            exact ⟨rfl, B⟩
        · obtain rfl : j = kl := by omega
          have hr : r = m := by
            rcases hst.out with h | h
            · have e := HKL.out
              rw [e] at h
              exact HF2.out m h.2.2 h.2.1 h.1
            · rw [h.2.1, h.2.2]
          subst hr
          clear hst HF2 HST HGO
          go_wp2_with fail
          go_ret
          exact ⟨rfl, B⟩
end
section
open Go.RowKit
theorem rmay_any (S : Nat → Prop) (f : Nat) (t : Ex f) (v : Value) (w : World) (hv : EV w S f v t) :
    Calls Tryd.prog 19 #[v] w fun e w' => e = .returned (.bool (mayX f t)) ∧ Below w.heap.size w w' := by
  obtain ⟨c0, c1, c2, c3, rfl, ht⟩ := hv
  have hv2 : EV (w.alloc (.cells #[c0, c1, c2, c3] 37)) S f (.agg #[c0, c1, c2, c3]) t := EV.alloc ⟨c0, c1, c2, c3, rfl, ht⟩ _
  have hr := left_any S f t _ 24 8 _ (by omega) (by omega) (by omega) (by omega) hv2
  have hm := left_may t
  clear hv2
  have B0 := (Below.refl w.heap.size w).alloc (Nat.le_refl _) (.cells #[c0, c1, c2, c3] 37)
  obtain ⟨i0, i1, l2, X3, n3, z3, rfl, rfl, rfl, rfl⟩ := ht.form
  unfold strV at *
  clear ht
  generalize leftX f t 24 8 = n at *
  generalize mayX f t = r at *
  subst hm
  go_enter Tryd.func19, Tryd.ntmps19
  go_wp2_with fail
  refine hr.mono ?_
  rintro e w5 ⟨rfl, b5⟩
  have B5 := B0.trans (b5.mono (by simp))
  clear hr
  go_wp2_with fail
  go_ret
  exact ⟨rfl, B5⟩
set_option maxHeartbeats 4000000 in
theorem small_few (S : Nat → Prop) : ∀ (f : Nat) (t : Ex f) (v : Value) (n d : Int) (w : World), -1 ≤ n → n ≤ 1000 → -1000 ≤ d → d ≤ 1000 → EV w S f v t →
    Calls Tryd.prog 12 #[v, .int .i64 n, .int .i64 d] w fun e w' => ∃ m : Int, e = .returned (.int .i64 m) ∧ -1 ≤ m ∧ m ≤ 1000 ∧ (0 ≤ m → fewX f t) ∧ Below w.heap.size w w' := by
  intro f
  induction f with
  | zero => intro t; exact nomatch t
  | succ f ih =>
    intro t v n d w hn hn2 hd hd2 hv
    obtain ⟨c0, c1, c2, c3, rfl, rfl, hk, rfl, hdy, rfl, hml, hks⟩ := hv
    obtain ⟨A3, cap3, e3, hl3, hm3, _⟩ := id hks
    subst e3
    have HFew : Hid ((t : Nx (Ex f)).kids.length ≤ 1000000 → (t : Nx (Ex f)).mile.length ≤ 1000000 → (∀ u, u ∈ (t : Nx (Ex f)).kids → fewX f u) → fewX (f + 1) t) := fun h1 h2 h3 => ⟨h1, h2, h3⟩
    obtain ⟨FT, hFT⟩ : ∃ FT : Prop, FT = fewX (f + 1) t := ⟨_, rfl⟩
    rw [← hFT]
    rw [← hFT] at HFew
    clear hFT
    have hmlen : (t : Nx (Ex f)).mile.length ≤ 9223372036854775807 := by unfold maxLen at hml; omega
    have hsz : ((⟨(t : Nx (Ex f)).mile.toArray⟩ : ByteArray).size : Int) = ((t : Nx (Ex f)).mile.length : Int) := rfl
    generalize (t : Nx (Ex f)).op = k at *
    generalize (t : Nx (Ex f)).days = dy at *
    generalize (t : Nx (Ex f)).mile = l at *
    generalize (t : Nx (Ex f)).kids = ks at *
    clear t
    have hlen : ks.length ≤ 9223372036854775807 := by unfold maxLen at hm3; omega
    have W1 : wrap64 (n - 1) = n - 1 := IntWalk.wrap64_in _ (by omega)
    have W2 : wrap64 (d - 1) = d - 1 := IntWalk.wrap64_in _ (by omega)
    have I1 : IntKind.i64.wrap (n - 1) = n - 1 := by rw [IntKind.wrap_i64]; omega
    have I2 : IntKind.i64.wrap (d - 1) = d - 1 := by rw [IntKind.wrap_i64]; omega
    unfold strV at *
    obtain ⟨s, hs⟩ : ∃ s : ByteArray, s = ⟨l.toArray⟩ := ⟨_, rfl⟩
    rw [← hs] at hsz ⊢
    clear hs
    obtain ⟨ln, hln⟩ : ∃ ln, ln = l.length := ⟨_, rfl⟩
    rw [← hln] at hsz hmlen HFew
    clear hln hml
    obtain ⟨kl, hkl⟩ : ∃ kl, kl = ks.length := ⟨_, rfl⟩
    rw [← hkl] at hks hl3 hlen ⊢
    have HKL := Lib.hid hkl
    clear hkl
    have kb := KB.new w 37 #[.int .i64 k, .int .i64 dy, .string s, .slice A3 kl cap3]
    have B0 := (Below.refl w.heap.size w).alloc (Nat.le_refl _) (.cells #[.int .i64 k, .int .i64 dy, .string s, .slice A3 kl cap3] 37)
    have hno : ∀ W', Below w.heap.size w W' → ∃ m : Int, Ending.returned (.int .i64 (-1)) = .returned (.int .i64 m) ∧ -1 ≤ m ∧ m ≤ 1000 ∧ (0 ≤ m → FT) ∧ Below w.heap.size w W' := fun W' h => ⟨-1, rfl, by omega, by omega, fun h => by omega, h⟩
    have HNO := Lib.hid hno
    clear hno
    by_cases h1 : n < 1
    · have E := decide_eq_true h1
      go_enter Tryd.func12, Tryd.ntmps12
      go_wp2_with fail
      go_ret
      exact HNO.out _ B0
    have E1 : decide (n < 1) = false := decide_eq_false h1
    by_cases h2 : d < 1
    · have E := decide_eq_true h2
      go_enter Tryd.func12, Tryd.ntmps12
      go_wp2_with fail
      go_ret
      exact HNO.out _ B0
    have E2 : decide (d < 1) = false := decide_eq_false h2
    by_cases h3 : n < (kl : Int)
    · have E := decide_eq_true h3
      go_enter Tryd.func12, Tryd.ntmps12
      go_wp2_with fail
      go_ret
      exact HNO.out _ B0
    have E3 : decide (n < (kl : Int)) = false := decide_eq_false h3
    by_cases h4 : 100 < ln
    · have E : decide ((100 : Int) < (ln : Int)) = true := decide_eq_true (by omega)
      have E' : decide (100 < ln) = true := decide_eq_true h4
      go_enter Tryd.func12, Tryd.ntmps12
      go_wp2_with fail
      go_ret
      exact HNO.out _ B0
    have E4 : decide ((100 : Int) < (ln : Int)) = false := decide_eq_false (by omega)
    have E4' : decide (100 < ln) = false := decide_eq_false h4
    go_enter Tryd.func12, Tryd.ntmps12
    go_wp2_with fail
    clear E1 E2 E3 E4 E4'
    go_loopw [1, 7] (fun mv iv wr => ∃ (m : Int) (j : Nat), -1 ≤ m ∧ m ≤ 1000 ∧ Hid (0 ≤ m → ∀ i (h : i < ks.length), i < j → fewX f ks[i]) ∧ j ≤ kl ∧ mv = .int .i64 m ∧ iv = .int .i64 j ∧
      KB wr w.heap.size 37 #[.int .i64 k, .int .i64 dy, .string s, .slice A3 kl cap3] ∧ Below w.heap.size w wr) (fun mv iv _ => kl - (intOf iv).toNat)
    case atStart => exact ⟨n - 1, 0, by omega, by omega, fun _ i _ h => absurd h (Nat.not_lt_zero _), by omega, rfl, rfl, kb, B0⟩
    case round =>
      obtain ⟨m, j, hmm, hmk, hfw, hj, rfl, rfl, K, B⟩ := hrel
      have q3 : wr.cell? ⟨w.heap.size, 3, none⟩ = some (.slice A3 kl cap3) := K.cell 3
      by_cases hlt : j < kl
      · have hltI : (j : Int) < (kl : Int) := by omega
        by_cases hm0 : 0 ≤ m
        · have hjk : j < ks.length := by rw [← HKL.out]; exact hlt
          obtain ⟨b, o, e0, e1, e2, e3, rfl, _, k0, k1, k2, k3, hv⟩ := kid_x hks HKL.out.symm B.size (fun b sb hb => B.block b hb) j hjk
          have hc := ih ks[j] (.agg #[e0, e1, e2, e3]) m (d - 1) wr hmm hmk (by omega) (by omega) ⟨e0, e1, e2, e3, rfl, hv⟩
          clear hv
          go_wp2_with fail
          refine hc.mono ?_
          rintro e w5 ⟨m5, rfl, h5, h5k, hf5, b5⟩
          have HF5 := Lib.hid hf5
          have HW : Hid (0 ≤ m5 → ∀ i (h : i < ks.length), i < j + 1 → fewX f ks[i]) := by
            intro h0 i hi hij
            by_cases hij' : i < j
            · exact hfw.out hm0 i hi hij'
            · obtain rfl : i = j := by omega
              exact HF5.out h0
          clear hf5 HF5 hfw
          have K5 := K.below b5 K.lt
          have B5 := B.trans (b5.mono B.size)
          clear hc hjk
          go_wp2_with fail
          go_roundw
          case rel => exact ⟨m5, j + 1, h5, h5k, HW, by omega, rfl, by go_num, K5, B5⟩
          case measure => simp [intOf]; omega
        · go_wp2_with fail
          go_ret
          exact ⟨m, rfl, hmm, hmk, fun h => by omega, B⟩
      · go_wp2_with fail
        go_ret
        exact ⟨m, rfl, hmm, hmk, fun h => HFew.out (by rw [← HKL.out]; omega) (by omega) fun u hu => by
          obtain ⟨i, hi, e⟩ := List.mem_iff_getElem.1 hu
          rw [← e]
          exact hfw.out h i hi (by rw [← HKL.out] at hi; omega), B⟩
def SmallOk (f : Nat) (l : List (Rl f)) : Prop := l.length ≤ 20 ∧ ∀ r ∈ l, r.cls.length ≤ 100 ∧ fewX f r.when_
def SmallAs (f : Nat) (l : List (Rl f)) (w : World) (e : Ending) (w' : World) : Prop := ∃ b : Bool, e = .returned (.bool b) ∧ (b = true → SmallOk f l) ∧ Below w.heap.size w w'
set_option maxHeartbeats 4000000 in
theorem rsmall_any (S : Nat → Prop) (f : Nat) (l : List (Rl f)) (v : Value) (w : World) (hv : RS w S f v l) :
    Calls Tryd.prog 5 #[v] w (SmallAs f l w) := by
  obtain ⟨A, cp, rfl, hlc, hcm⟩ := hv.form
  have hl63 : l.length ≤ 9223372036854775807 := by unfold maxLen at hcm; omega
  obtain ⟨D, hD⟩ : ∃ D, D = SmallAs f l w := ⟨_, rfl⟩
  rw [← hD]
  have HD : Hid (∀ (b : Bool) w', (b = true → SmallOk f l) → Below w.heap.size w w' → D (.returned (.bool b)) w') := fun b w' hb h => by rw [hD]; exact ⟨b, rfl, hb, h⟩
  clear hD
  obtain ⟨ll, hll⟩ : ∃ ll, ll = l.length := ⟨_, rfl⟩
  rw [← hll] at hlc hl63 hv ⊢
  have HLL := Lib.hid hll
  clear hll
  go_enter Tryd.func5, Tryd.ntmps5
  go_wp2_with fail
  go_loopw [3] (fun iv wr => ∃ j : Nat, j ≤ ll ∧ j ≤ 40 ∧ iv = .int .i64 (j : Int) ∧ Hid (∀ i (h : i < l.length), i < j → l[i].cls.length ≤ 100 ∧ fewX f l[i].when_) ∧ Below w.heap.size w wr) (fun iv _ => ll - (intOf iv).toNat)
  case atStart => exact ⟨0, by omega, by omega, rfl, fun i _ h => absurd h (Nat.not_lt_zero _), Below.refl _ _⟩
  case round =>
    obtain ⟨j, hj, hj40, rfl, HN, B⟩ := hrel
    by_cases hlt : j < ll
    · have hltI : (j : Int) < (ll : Int) := by omega
      by_cases h40 : j < 40
      · have h40I : (j : Int) < 40 := by omega
        have hjk : j < l.length := by rw [← HLL.out]; exact hlt
        obtain ⟨b, o, e0, e1, e2, e3, e4, e5, rfl, _, k0, k1, k2, k3, k4, k5, rfl, r1, hx, rfl, _⟩ := rule_at hv HLL.out.symm B.size (fun b sb hb => B.block b hb) j hjk
        have hc := small_few S f l[j].when_ (.agg #[e1, e2, e3, e4]) 60 30 wr (by omega) (by omega) (by omega) (by omega) ⟨e1, e2, e3, e4, rfl, hx⟩
        have HS : Hid (l[j].cls.length ≤ 100 → fewX f l[j].when_ → ∀ i (h : i < l.length), i < j + 1 → l[i].cls.length ≤ 100 ∧ fewX f l[i].when_) := fun h1 h2 i hi hij => by
          by_cases hij' : i < j
          · exact HN.out i hi hij'
          · obtain rfl : i = j := by omega
            exact ⟨h1, h2⟩
        have hsz : ((⟨l[j].cls.toArray⟩ : ByteArray).size : Int) = (l[j].cls.length : Int) := rfl
        have hml : l[j].cls.length ≤ 9223372036854775807 := by unfold maxLen at r1; omega
        unfold strV at k0
        clear hx HN
        generalize fewX f l[j].when_ = FW at *
        generalize l[j].act = ac at *
        obtain ⟨s, hs⟩ : ∃ s : ByteArray, s = ⟨l[j].cls.toArray⟩ := ⟨_, rfl⟩
        rw [← hs] at k0 hsz
        clear hs
        generalize l[j].cls.length = cl at *
        by_cases h4 : 100 < cl
        · have E : decide ((100 : Int) < (cl : Int)) = true := decide_eq_true (by omega)
          have E' : decide (100 < cl) = true := decide_eq_true h4
          have HF := Lib.hid (HD.out false wr (fun e => by cases e) B)
          clear h4
          go_wp2_with fail
          exact HF.out
        have E4 : decide ((100 : Int) < (cl : Int)) = false := decide_eq_false (by omega)
        have E4' : decide (100 < cl) = false := decide_eq_false h4
        go_wp2_with fail
        refine hc.mono ?_
        rintro e w5 ⟨m5, rfl, h5, h5k, hf5, b5⟩
        have B5 := B.trans (b5.mono B.size)
        have HF5 := Lib.hid hf5
        clear hc hf5
        by_cases hm : m5 < 0
        · have E : decide (m5 < 0) = true := decide_eq_true hm
          have HF := Lib.hid (HD.out false w5 (fun e => by cases e) B5)
          go_wp2_with fail
          exact HF.out
        · have E : decide (m5 < 0) = false := decide_eq_false hm
          have HW := Lib.hid (HS.out (by omega) (HF5.out (by omega)))
          clear HF5 HS
          go_wp2_with fail
          go_roundw
          case rel => exact ⟨j + 1, by omega, by omega, by go_num, HW, B5⟩
          case measure => simp [intOf]; omega
      · have h40I : ¬ (j : Int) < 40 := by omega
        have h20 : ¬ (ll : Int) ≤ 20 := by omega
        have h20' : ¬ ll ≤ 20 := by omega
        have HF := Lib.hid (HD.out false wr (fun e => by cases e) B)
        go_wp2_with fail
        exact HF.out
    · have HW : Hid (ll ≤ 20 → SmallOk f l) := fun h => ⟨by rw [← HLL.out]; exact h, fun r hr => by
        obtain ⟨i, hi, e⟩ := List.mem_iff_getElem.1 hr
        rw [← e]
        exact HN.out i hi (by rw [← HLL.out] at hi; omega)⟩
      clear HN
      by_cases h20 : ll ≤ 20
      · have h20I : (ll : Int) ≤ 20 := by omega
        have HF := Lib.hid (HD.out true wr (fun _ => HW.out h20) B)
        go_wp2_with fail
        exact HF.out
      · have h20I : ¬ (ll : Int) ≤ 20 := by omega
        have HF := Lib.hid (HD.out false wr (fun e => by cases e) B)
        go_wp2_with fail
        exact HF.out
end
section
open Go.RowKit
theorem str_at (l : List UInt8) (k : Nat) (x : UInt8) (hx : l[k]? = some x) : ∀ W : World, (Instr.index 9 (.string ⟨l.toArray⟩) (.int .i64 (k : Int))).run Tryd.prog W = .ok (.int .u8 (x.toNat : Int)) W := fun W => by
  have hk := (List.getElem?_eq_some_iff.1 hx).1
  have hs : (⟨l.toArray⟩ : ByteArray).size = l.length := rfl
  rw [run_index_string W 9 ⟨l.toArray⟩ .i64 (k : Int) Tryd.underlying9, dif_pos ⟨by omega, by rw [hs]; omega⟩]
  simp only [Int.toNat_natCast]
  have e : (⟨l.toArray⟩ : ByteArray)[k]'(by rw [hs]; exact hk) = x := by
    have := (List.getElem?_eq_some_iff.1 hx).2
    exact this
  rw [e]
theorem all_step {l : List UInt8} {k : Nat} {x : UInt8} (hx : l[k]? = some x) (h : ((l.take k).all fun b => okc b.toNat) = true) (ho : okc x.toNat = true) : ((l.take (k + 1)).all fun b => okc b.toNat) = true := by
  rw [List.take_add_one, hx, List.all_append, h]
  simp [ho]
theorem all_stop {l : List UInt8} {k : Nat} {x : UInt8} (hx : l[k]? = some x) (ho : okc x.toNat = false) : nameS l = false := by
  unfold nameS
  have : (l.all fun b => okc b.toNat) = false := by
    cases hq : l.all fun b => okc b.toNat with
    | false => rfl
    | true =>
      have := List.all_eq_true.1 hq x (List.mem_of_getElem? hx)
      rw [ho] at this
      cases this
  rw [this]; simp
set_option maxHeartbeats 2000000 in
theorem rname_any (l : List UInt8) (hl : l.length ≤ maxLen) (w : World) :
    Calls Tryd.prog 18 #[strV l] w fun e w' => e = .returned (.bool (nameS l)) ∧ w = w' := by
  have hs : ((⟨l.toArray⟩ : ByteArray).size : Int) = (l.length : Int) := rfl
  have hat := str_at l
  have HAT := Lib.hid hat
  have hml : l.length ≤ 9223372036854775807 := by unfold maxLen at hl; omega
  obtain ⟨r, hr⟩ : ∃ r, r = nameS l := ⟨_, rfl⟩
  rw [← hr]
  have HR := Lib.hid hr
  unfold strV
  clear hat hr hl
  have HAT2 : Hid (∀ s : ByteArray, s = ⟨l.toArray⟩ → ∀ (k : Nat) (x : UInt8), l[k]? = some x → ∀ W : World, (Instr.index 9 (.string s) (.int .i64 (k : Int))).run Tryd.prog W = .ok (.int .u8 (x.toNat : Int)) W) := fun s e => by subst e; exact HAT.out
  obtain ⟨s, hse⟩ : ∃ s : ByteArray, s = ⟨l.toArray⟩ := ⟨_, rfl⟩
  rw [← hse] at hs ⊢
  replace HAT := Lib.hid (HAT2.out s hse)
  clear HAT2 hse
  go_enter Tryd.func18, Tryd.ntmps18
  go_wp2
  go_loop [3] (fun i => ∃ k : Nat, k ≤ l.length ∧ i = .int .i64 k ∧ Hid (((l.take k).all fun b => okc b.toNat) = true)) (fun i => l.length - (intOf i).toNat)
  case atStart => exact ⟨0, by omega, rfl, rfl⟩
  case round =>
    obtain ⟨k, hk, rfl, ha⟩ := hrel
    by_cases hlt : k < l.length
    · obtain ⟨x, hx⟩ : ∃ x, l[k]? = some x := ⟨_, List.getElem?_eq_getElem hlt⟩
      have hix := HAT.out k x hx
      have hxl := x.toNat_lt
      have HS := Lib.hid (all_stop (l := l) (k := k) (x := x) hx)
      have HST := Lib.hid (fun ho => all_step (l := l) (k := k) (x := x) hx ha.out ho)
      have HO : Hid (okc x.toNat = okc x.toNat) := rfl
      generalize hc : x.toNat = c at hix HS HST HO
      have hc256 : c < 256 := by omega
      clear hc hx hxl HAT ha
      by_cases q0 : c ≤ 44
      · have ho : okc c = false := by unfold okc; simp; omega
        have E0 : decide ((c : Int) < 97) = true := decide_eq_true (by omega)
        have E1 : decide ((122 : Int) < (c : Int)) = false := decide_eq_false (by omega)
        have E2 : decide ((c : Int) < 48) = true := decide_eq_true (by omega)
        have E3 : decide ((57 : Int) < (c : Int)) = false := decide_eq_false (by omega)
        have N0 : ((c : Int) != 46) = true := by simp; omega
        have N1 : ((c : Int) != 45) = true := by simp; omega
        have N2 : ((c : Int) != 95) = true := by simp; omega
        have hr := HR.out
        rw [HS.out ho] at hr
        clear HS HST HO HR ho
        subst hr
        go_wp2
        go_ret
        exact ⟨rfl, rfl⟩
      by_cases q1 : c = 45
      · have ho : okc c = true := by unfold okc; simp; omega
        have E0 : decide ((c : Int) < 97) = true := decide_eq_true (by omega)
        have E1 : decide ((122 : Int) < (c : Int)) = false := decide_eq_false (by omega)
        have E2 : decide ((c : Int) < 48) = true := decide_eq_true (by omega)
        have E3 : decide ((57 : Int) < (c : Int)) = false := decide_eq_false (by omega)
        have N0 : ((c : Int) != 46) = true := by simp; omega
        have N1 : ((c : Int) != 45) = false := by simp; omega
        have N2 : ((c : Int) != 95) = true := by simp; omega
        have HT := Lib.hid (HST.out ho)
        clear HS HST HO HR ho
        go_wp2
        go_round
        case rel => exact ⟨k + 1, by omega, by go_num, HT⟩
        case measure => simp [intOf]; omega
      by_cases q2 : c = 46
      · have ho : okc c = true := by unfold okc; simp; omega
        have E0 : decide ((c : Int) < 97) = true := decide_eq_true (by omega)
        have E1 : decide ((122 : Int) < (c : Int)) = false := decide_eq_false (by omega)
        have E2 : decide ((c : Int) < 48) = true := decide_eq_true (by omega)
        have E3 : decide ((57 : Int) < (c : Int)) = false := decide_eq_false (by omega)
        have N0 : ((c : Int) != 46) = false := by simp; omega
        have N1 : ((c : Int) != 45) = true := by simp; omega
        have N2 : ((c : Int) != 95) = true := by simp; omega
        have HT := Lib.hid (HST.out ho)
        clear HS HST HO HR ho
        go_wp2
        go_round
        case rel => exact ⟨k + 1, by omega, by go_num, HT⟩
        case measure => simp [intOf]; omega
      by_cases q3 : c = 47
      · have ho : okc c = false := by unfold okc; simp; omega
        have E0 : decide ((c : Int) < 97) = true := decide_eq_true (by omega)
        have E1 : decide ((122 : Int) < (c : Int)) = false := decide_eq_false (by omega)
        have E2 : decide ((c : Int) < 48) = true := decide_eq_true (by omega)
        have E3 : decide ((57 : Int) < (c : Int)) = false := decide_eq_false (by omega)
        have N0 : ((c : Int) != 46) = true := by simp; omega
        have N1 : ((c : Int) != 45) = true := by simp; omega
        have N2 : ((c : Int) != 95) = true := by simp; omega
        have hr := HR.out
        rw [HS.out ho] at hr
        clear HS HST HO HR ho
        subst hr
        go_wp2
        go_ret
        exact ⟨rfl, rfl⟩
      by_cases q4 : c ≤ 57
      · have ho : okc c = true := by unfold okc; simp; omega
        have E0 : decide ((c : Int) < 97) = true := decide_eq_true (by omega)
        have E1 : decide ((122 : Int) < (c : Int)) = false := decide_eq_false (by omega)
        have E2 : decide ((c : Int) < 48) = false := decide_eq_false (by omega)
        have E3 : decide ((57 : Int) < (c : Int)) = false := decide_eq_false (by omega)
        have N0 : ((c : Int) != 46) = true := by simp; omega
        have N1 : ((c : Int) != 45) = true := by simp; omega
        have N2 : ((c : Int) != 95) = true := by simp; omega
        have HT := Lib.hid (HST.out ho)
        clear HS HST HO HR ho
        go_wp2
        go_round
        case rel => exact ⟨k + 1, by omega, by go_num, HT⟩
        case measure => simp [intOf]; omega
      by_cases q5 : c ≤ 94
      · have ho : okc c = false := by unfold okc; simp; omega
        have E0 : decide ((c : Int) < 97) = true := decide_eq_true (by omega)
        have E1 : decide ((122 : Int) < (c : Int)) = false := decide_eq_false (by omega)
        have E2 : decide ((c : Int) < 48) = false := decide_eq_false (by omega)
        have E3 : decide ((57 : Int) < (c : Int)) = true := decide_eq_true (by omega)
        have N0 : ((c : Int) != 46) = true := by simp; omega
        have N1 : ((c : Int) != 45) = true := by simp; omega
        have N2 : ((c : Int) != 95) = true := by simp; omega
        have hr := HR.out
        rw [HS.out ho] at hr
        clear HS HST HO HR ho
        subst hr
        go_wp2
        go_ret
        exact ⟨rfl, rfl⟩
      by_cases q6 : c = 95
      · have ho : okc c = true := by unfold okc; simp; omega
        have E0 : decide ((c : Int) < 97) = true := decide_eq_true (by omega)
        have E1 : decide ((122 : Int) < (c : Int)) = false := decide_eq_false (by omega)
        have E2 : decide ((c : Int) < 48) = false := decide_eq_false (by omega)
        have E3 : decide ((57 : Int) < (c : Int)) = true := decide_eq_true (by omega)
        have N0 : ((c : Int) != 46) = true := by simp; omega
        have N1 : ((c : Int) != 45) = true := by simp; omega
        have N2 : ((c : Int) != 95) = false := by simp; omega
        have HT := Lib.hid (HST.out ho)
        clear HS HST HO HR ho
        go_wp2
        go_round
        case rel => exact ⟨k + 1, by omega, by go_num, HT⟩
        case measure => simp [intOf]; omega
      by_cases q7 : c = 96
      · have ho : okc c = false := by unfold okc; simp; omega
        have E0 : decide ((c : Int) < 97) = true := decide_eq_true (by omega)
        have E1 : decide ((122 : Int) < (c : Int)) = false := decide_eq_false (by omega)
        have E2 : decide ((c : Int) < 48) = false := decide_eq_false (by omega)
        have E3 : decide ((57 : Int) < (c : Int)) = true := decide_eq_true (by omega)
        have N0 : ((c : Int) != 46) = true := by simp; omega
        have N1 : ((c : Int) != 45) = true := by simp; omega
        have N2 : ((c : Int) != 95) = true := by simp; omega
        have hr := HR.out
        rw [HS.out ho] at hr
        clear HS HST HO HR ho
        subst hr
        go_wp2
        go_ret
        exact ⟨rfl, rfl⟩
      by_cases q8 : c ≤ 122
      · have ho : okc c = true := by unfold okc; simp; omega
        have E0 : decide ((c : Int) < 97) = false := decide_eq_false (by omega)
        have E1 : decide ((122 : Int) < (c : Int)) = false := decide_eq_false (by omega)
        have E2 : decide ((c : Int) < 48) = false := decide_eq_false (by omega)
        have E3 : decide ((57 : Int) < (c : Int)) = true := decide_eq_true (by omega)
        have N0 : ((c : Int) != 46) = true := by simp; omega
        have N1 : ((c : Int) != 45) = true := by simp; omega
        have N2 : ((c : Int) != 95) = true := by simp; omega
        have HT := Lib.hid (HST.out ho)
        clear HS HST HO HR ho
        go_wp2
        go_round
        case rel => exact ⟨k + 1, by omega, by go_num, HT⟩
        case measure => simp [intOf]; omega
      have ho : okc c = false := by unfold okc; simp; omega
      have E0 : decide ((c : Int) < 97) = false := decide_eq_false (by omega)
      have E1 : decide ((122 : Int) < (c : Int)) = true := decide_eq_true (by omega)
      have E2 : decide ((c : Int) < 48) = false := decide_eq_false (by omega)
      have E3 : decide ((57 : Int) < (c : Int)) = true := decide_eq_true (by omega)
      have N0 : ((c : Int) != 46) = true := by simp; omega
      have N1 : ((c : Int) != 45) = true := by simp; omega
      have N2 : ((c : Int) != 95) = true := by simp; omega
      have hr := HR.out
      rw [HS.out ho] at hr
      clear HS HST HO HR ho
      subst hr
      go_wp2
      go_ret
      exact ⟨rfl, rfl⟩
    · have hkl : k = l.length := by omega
      subst hkl
      have hr := HR.out
      have ha' := ha.out
      rw [List.take_length] at ha'
      unfold nameS at hr
      rw [ha', Bool.and_true] at hr
      have e1 : decide ((1 : Int) ≤ (l.length : Int)) = decide (1 ≤ l.length) := decide_eq_decide.2 (by omega)
      have e2 : decide ((l.length : Int) ≤ 16) = decide (l.length ≤ 16) := decide_eq_decide.2 (by omega)
      clear ha ha' HAT HR
      cases g1 : decide (1 ≤ l.length) with
      | false =>
        rw [g1] at e1 hr
        simp only [Bool.false_and] at hr
        subst hr
        clear g1 e2
        go_wp2
        go_ret
        exact ⟨rfl, rfl⟩
      | true =>
        rw [g1] at e1 hr
        simp only [Bool.true_and] at hr
        rw [← e2] at hr
        clear g1 e2
        subst hr
        go_wp2
        go_ret
        exact ⟨rfl, rfl⟩
end
section
open Go.RowKit
theorem void_yes {s : ByteArray} (h : s.toList = []) : s.toList.isEmpty = true ∧ (s.toList == []) = true ∧ (s.toList != []) = false := ⟨List.isEmpty_iff.2 h, by rw [h]; rfl, by rw [h]; rfl⟩
theorem void_no {s : ByteArray} (h : ¬ s.toList = []) : s.toList.isEmpty = false ∧ (s.toList == []) = false ∧ (s.toList != []) = true := by
  refine ⟨?_, beq_eq_false_iff_ne.2 h, bne_iff_ne.2 h⟩
  cases hq : s.toList.isEmpty with
  | false => rfl
  | true => exact absurd (List.isEmpty_iff.1 hq) h
theorem rgood_is {f : Nat} (r : Rl f) : goodR f r = (decide (1 ≤ r.act ∧ r.act ≤ 3) && (decide (r.cls = []) || nameS r.cls) && mayX f r.when_) := rfl
set_option maxHeartbeats 8000000 in
theorem rcheck_any (S : Nat → Prop) (f : Nat) (l : List (Rl f)) (v : Value) (w : World) (hv : RS w S f v l) :
    Calls Tryd.prog 13 #[v] w fun e w' => e = .returned (.int .i64 (checkR f l)) ∧ Below w.heap.size w w' := by
  obtain ⟨A3, cap3, rfl, hl3, hm3⟩ := hv.form
  have hlen : l.length ≤ 9223372036854775807 := by unfold maxLen at hm3; omega
  obtain ⟨r, hr⟩ : ∃ r, r = checkR f l := ⟨_, rfl⟩
  rw [← hr]
  by_cases h12 : 12 < l.length
  · rw [check_many h12] at hr
    subst hr
    have E : decide ((12 : Int) < (l.length : Int)) = true := decide_eq_true (by omega)
    have E' : decide (12 < l.length) = true := decide_eq_true h12
    go_enter Tryd.func13, Tryd.ntmps13
    go_wp2_with fail
    go_ret
    exact ⟨rfl, Below.refl _ _⟩
  have E : decide ((12 : Int) < (l.length : Int)) = false := decide_eq_false (by omega)
  have E' : decide (12 < l.length) = false := decide_eq_false h12
  have HBAD : Hid (∀ (j : Nat) (hj : j < l.length), goodR f l[j] = false → r = 1) := fun j hj h => hr.trans (check_bad h12 hj h)
  have HDUP : Hid ((∀ (j : Nat) (hj : j < l.length), goodR f l[j] = true) → ∀ (i k : Nat) (hi : i < l.length) (hk : k < i), l[k].cls = l[i].cls → r = 6) := fun hg i k hi hk h => hr.trans (check_dup h12 hg ⟨i, k, hi, hk, h⟩)
  have HOK : Hid ((∀ (j : Nat) (hj : j < l.length), goodR f l[j] = true) → (∀ (i k : Nat) (hi : i < l.length) (hk : k < i), ¬ l[k].cls = l[i].cls) → r = 0) := fun hg h => hr.trans (check_ok h12 hg (fun ⟨i, k, hi, hk, e⟩ => h i k hi hk e))
  clear hr
  have HRB : Hid (∀ (wr : World), Below w.heap.size w wr → ∀ (j : Nat) (hj : j < l.length), ∃ b o e1 e2 e3 e4, A3 = some ⟨b, o, none⟩ ∧ b < w.heap.size ∧ wr.cell? ⟨b, o + j * 6, none⟩ = some (strV l[j].cls) ∧ wr.cell? ⟨b, o + j * 6 + 1, none⟩ = some e1 ∧ wr.cell? ⟨b, o + j * 6 + 2, none⟩ = some e2 ∧ wr.cell? ⟨b, o + j * 6 + 3, none⟩ = some e3 ∧
      wr.cell? ⟨b, o + j * 6 + 4, none⟩ = some e4 ∧ wr.cell? ⟨b, o + j * 6 + 5, none⟩ = some (.int .i64 l[j].act) ∧ EV wr S f (.agg #[e1, e2, e3, e4]) l[j].when_ ∧ l[j].cls.length ≤ maxLen ∧ I64 l[j].act) := fun wr hb j hj => rule_b hv rfl hb j hj
  clear hv
  go_enter Tryd.func13, Tryd.ntmps13
  go_wp2_with fail
  clear E E'
  go_loopw [3] (fun iv wr => ∃ j : Nat, j ≤ l.length ∧ iv = .int .i64 j ∧ Hid (∀ (i : Nat) (hi : i < l.length), i < j → goodR f l[i] = true) ∧ Below w.heap.size w wr) (fun iv _ => l.length - (intOf iv).toNat)
  case atStart => exact ⟨0, by omega, rfl, fun i _ h => absurd h (Nat.not_lt_zero _), Below.refl _ _⟩
  case round =>
    obtain ⟨j, hj, rfl, hall, B⟩ := hrel
    by_cases hlt : j < l.length
    · have hltI : (j : Int) < (l.length : Int) := by omega
      obtain ⟨b, o, e1, e2, e3, e4, rfl, hb, k0, k1, k2, k3, k4, k5, hx, hcm, hai⟩ := HRB.out wr B j hlt
      have HB := Lib.hid (HBAD.out j hlt)
      have HN : Hid (goodR f l[j] = true → ∀ (i : Nat) (hi : i < l.length), i < j + 1 → goodR f l[i] = true) := fun h i hi hij => by
        rcases Nat.lt_or_ge i j with h' | h'
        · exact hall.out i hi h'
        · obtain rfl : i = j := by omega
          exact h
      rw [rgood_is] at HB HN
      have hmb := rmay_any S f l[j].when_ _ wr hx
      obtain ⟨_, _, _, _, e, hx4⟩ := hx
      injection e with e
      simp only [Array.mk.injEq, List.cons.injEq, and_true] at e
      obtain ⟨rfl, rfl, rfl, rfl⟩ := e
      obtain ⟨i0, i1, l2, X3, n3, z3, rfl, rfl, rfl, rfl⟩ := hx4.form
      have hnm := rname_any l[j].cls hcm
      have hbr : b < wr.heap.size := Nat.lt_of_lt_of_le hb B.size
      have HCE := Lib.hid (ne_not ⟨l[j].cls.toArray⟩ l[j].cls [] rfl)
      have HCN := Lib.hid (ne_if ⟨l[j].cls.toArray⟩ l[j].cls [] rfl)
      clear hx4 hall hcm
      generalize mayX f l[j].when_ = bm at *
      generalize nameS l[j].cls = bn at *
      obtain ⟨bc, hbc⟩ : ∃ bc, bc = decide (l[j].cls = []) := ⟨_, rfl⟩
      rw [← hbc] at HB HN
      have HCE2 : Hid (bc = true → (⟨l[j].cls.toArray⟩ : ByteArray).toList = []) := fun h => (HCE.out (of_decide_eq_true (hbc.symm.trans h))).2.2
      have HCN2 : Hid (bc = false → ¬ (⟨l[j].cls.toArray⟩ : ByteArray).toList = []) := fun h => (HCN.out (of_decide_eq_false (hbc.symm.trans h))).2.2
      clear HCE HCN hbc
      unfold strV at *
      generalize (⟨l2.toArray⟩ : ByteArray) = s2 at *
      generalize (⟨l[j].cls.toArray⟩ : ByteArray) = sc at *
      generalize l[j].act = ac at *
      by_cases hlo : ac < 1
      · have EL : decide (ac < 1) = true := decide_eq_true hlo
        rw [decide_eq_false (by omega), Bool.false_and, Bool.false_and] at HB
        obtain rfl := HB.out rfl
        clear HB HN hmb hnm HCE2 HCN2 hlo
        go_wp2_with fail
        go_ret
        exact ⟨rfl, B⟩
      have EL : decide (ac < 1) = false := decide_eq_false hlo
      by_cases hhi : 3 < ac
      · have EH : decide (3 < ac) = true := decide_eq_true hhi
        rw [decide_eq_false (by omega), Bool.false_and, Bool.false_and] at HB
        obtain rfl := HB.out rfl
        clear HB HN hmb hnm HCE2 HCN2 hlo hhi
        go_wp2_with fail
        go_ret
        exact ⟨rfl, B⟩
      have EH : decide (3 < ac) = false := decide_eq_false hhi
      rw [decide_eq_true (by omega), Bool.true_and] at HB HN
      clear hlo hhi hai
      cases bc with
      | true =>
        rw [Bool.true_or, Bool.true_and] at HB HN
        have hce := HCE2.out rfl
        obtain ⟨ec1, ec2, ec3⟩ := void_yes hce
        clear HCE2 HCN2 hnm
        go_wp2_with fail
        refine hmb.mono ?_
        rintro e w7 ⟨rfl, b7⟩
        have B7 := B.trans (b7.mono B.size)
        clear hmb b7 k0 k1 k2 k3 k4 k5
        cases bm with
        | false =>
          obtain rfl := HB.out rfl
          clear HB HN
          go_wp2_with fail
          go_ret
          exact ⟨rfl, B7⟩
        | true =>
          have hn := Lib.hid (HN.out rfl)
          clear HB HN
          go_wp2_with fail
          go_roundw
          case rel => exact ⟨j + 1, by omega, by go_num, hn, B7⟩
          case measure => simp [intOf]; omega
      | false =>
        rw [Bool.false_or] at HB HN
        have hce := HCN2.out rfl
        obtain ⟨ec1, ec2, ec3⟩ := void_no hce
        clear HCE2 HCN2
        go_wp2_with fail
        refine (hnm _).mono ?_
        rintro e w6 ⟨rfl, rfl⟩
        clear hnm
        cases bn with
        | false =>
          rw [Bool.false_and] at HB
          obtain rfl := HB.out rfl
          clear HB HN hmb
          go_wp2_with fail
          go_ret
          exact ⟨rfl, B⟩
        | true =>
          rw [Bool.true_and] at HB HN
          go_wp2_with fail
          refine hmb.mono ?_
          rintro e w7 ⟨rfl, b7⟩
          have B7 := B.trans (b7.mono B.size)
          clear hmb b7 k0 k1 k2 k3 k4 k5
          cases bm with
          | false =>
            obtain rfl := HB.out rfl
            clear HB HN
            go_wp2_with fail
            go_ret
            exact ⟨rfl, B7⟩
          | true =>
            have hn := Lib.hid (HN.out rfl)
            clear HB HN
            go_wp2_with fail
            go_roundw
            case rel => exact ⟨j + 1, by omega, by go_num, hn, B7⟩
            case measure => simp [intOf]; omega
    · have HG : Hid (∀ (i : Nat) (hi : i < l.length), goodR f l[i] = true) := fun i hi => hall.out i hi (by omega)
      have HDUP2 := Lib.hid (HDUP.out HG.out)
      have HOK2 := Lib.hid (HOK.out HG.out)
      clear HDUP HOK HBAD HG hall
      go_wp2_with fail
      obtain ⟨wo, hwo⟩ : ∃ wo, wo = wr := ⟨_, rfl⟩
      rw [← hwo]
      rw [← hwo] at B
      clear hwo
      go_loopw [4] (fun iv wr => ∃ j : Nat, j ≤ l.length ∧ iv = .int .i64 j ∧ Hid (∀ (i k : Nat) (hi : i < l.length) (hk : k < i), i < j → ¬ l[k].cls = l[i].cls) ∧ Below w.heap.size w wr) (fun iv _ => l.length - (intOf iv).toNat)
      case atStart => exact ⟨0, by omega, rfl, fun i k _ _ h => absurd h (Nat.not_lt_zero _), B⟩
      case round =>
        clear B
        obtain ⟨i, hi, rfl, hall, B⟩ := hrel
        by_cases hlt2 : i < l.length
        · have hltI : (i : Int) < (l.length : Int) := by omega
          obtain ⟨wq, hwq⟩ : ∃ wq, wq = wr := ⟨_, rfl⟩
          rw [← hwq]
          rw [← hwq] at B
          clear hwq
          go_wp2_with fail
          go_loopw [5] (fun kv wr => ∃ k : Nat, k ≤ i ∧ kv = .int .i64 k ∧ Hid (∀ (m : Nat) (hm : m < i), m < k → ¬ l[m].cls = l[i].cls) ∧ Below w.heap.size w wr) (fun kv _ => i - (intOf kv).toNat)
          case atStart => exact ⟨0, by omega, rfl, fun m _ h => absurd h (Nat.not_lt_zero _), B⟩
          case round =>
            clear B
            obtain ⟨k, hk, rfl, hin, B⟩ := hrel
            by_cases hki : k < i
            · have hkiI : (k : Int) < (i : Int) := by omega
              have hkl : k < l.length := by omega
              have hklI : (k : Int) < (l.length : Int) := by omega
              obtain ⟨b, o, _, _, _, _, rfl, hb, k0, _⟩ := HRB.out wr B k hkl
              obtain ⟨b', o', _, _, _, _, e, _, m0, _⟩ := HRB.out wr B i hlt2
              injection e with e
              injection e with e1 e2
              subst e1 e2
              have HD := Lib.hid (HDUP2.out i k hlt2 hki)
              have HN : Hid (¬ l[k].cls = l[i].cls → ∀ (m : Nat) (hm : m < i), m < k + 1 → ¬ l[m].cls = l[i].cls) := fun h m hm hmk => by
                rcases Nat.lt_or_ge m k with h' | h'
                · exact hin.out m hm h'
                · obtain rfl : m = k := by omega
                  exact h
              unfold strV at *
              obtain ⟨s, hs⟩ : ∃ s : ByteArray, s = ⟨l[k].cls.toArray⟩ := ⟨_, rfl⟩
              obtain ⟨s', hs'⟩ : ∃ s : ByteArray, s = ⟨l[i].cls.toArray⟩ := ⟨_, rfl⟩
              rw [← hs] at k0
              rw [← hs'] at m0
              have gq := eq_txt s s' _ _ hs hs'
              obtain ⟨eb, heb⟩ : ∃ eb, eb = decide (l[k].cls = l[i].cls) := ⟨_, rfl⟩
              rw [← heb] at gq
              have HEB := Lib.hid heb
              have HC : Hid (∀ W, Below wr.heap.size wr W → W.cell? ⟨b, o + k * 6, none⟩ = some (.string s) ∧ W.cell? ⟨b, o + i * 6, none⟩ = some (.string s')) := fun W hb5 => by
                have far : ∀ (g : Nat) (i : Nat) (u : Value), g < w.heap.size → wr.cell? ⟨g, i, none⟩ = some u → W.cell? ⟨g, i, none⟩ = some u := fun g i u hg hu =>
                  (World.cell?_of_block (w := wr) (hb5.block g (Nat.lt_of_lt_of_le hg B.size))).trans hu
                exact ⟨far _ _ _ hb k0, far _ _ _ hb m0⟩
              have Bd : Below w.heap.size w wr.drew := Below_drawn B 1
              clear hs hs' heb hin
              go_wp2_with fail
              rename_i KK hKK
              have HKK := Lib.hid hKK
              clear hKK k0 m0
              refine wp_region_held_drew (S := (fun W => W.cell? ⟨b, o + k * 6, none⟩ = some (.string s) ∧ W.cell? ⟨b, o + i * 6, none⟩ = some (.string s'))) (by kernel_rfl) (HC.out _ (Below_drawn (Below.refl _ _) 1)) (fun hHeld => ?_)
              refine hyY (some 66) 0 rfl hHeld ?_; go_frame
              refine hyY (some 67) 1 rfl hHeld ?_; go_frame
              refine hyY (some 68) 2 rfl hHeld ?_; go_frame
              refine hyY (some 69) 3 rfl hHeld ?_; go_frame
              refine hyY (some 70) 4 rfl hHeld ?_; go_frame
              refine hyY (some 71) 5 rfl hHeld ?_; go_frame
              refine hyY (some 72) 6 rfl hHeld ?_; go_frame
              refine hyY (some 73) 7 rfl hHeld ?_; go_frame
              refine hyY (some 74) 8 rfl hHeld ?_; go_frame
              refine hyY (some 75) 9 rfl hHeld ?_; go_frame
              refine hyY (some 76) 10 rfl hHeld ?_; go_frame
              refine wpAnyH_done (by kernel_rfl) ?_ _
              have hKK := HKK.out
              cases eb with
              | true =>
                obtain rfl := HD.out (of_decide_eq_true HEB.out.symm)
                clear HD HN HEB
                go_wp2_with fail
                go_ret
                exact ⟨rfl, Bd⟩
              | false =>
                have hn := Lib.hid (HN.out (of_decide_eq_false HEB.out.symm))
                clear HD HN HEB
                go_wp2_with fail
                go_roundw
                case rel => exact ⟨k + 1, by omega, by go_num, hn, Bd⟩
                case measure =>
                  simp [intOf]
                  omega
            · have hkiI : ¬ (k : Int) < (i : Int) := by omega
              have hn : Hid (∀ (a c : Nat) (ha : a < l.length) (hc : c < a), a < i + 1 → ¬ l[c].cls = l[a].cls) := fun a c ha hc hai => by
                rcases Nat.lt_or_ge a i with h' | h'
                · exact hall.out a c ha hc h'
                · obtain rfl : a = i := by omega
                  exact hin.out c hc (by omega)
              go_wp2_with fail
              go_roundw
              case rel => exact ⟨i + 1, by omega, by go_num, hn, B⟩
              case measure => simp [intOf]; omega
        · obtain rfl := HOK2.out fun a c ha hc => hall.out a c ha hc (by omega)
          clear HDUP2 HOK2 hall
          go_wp2_with fail
          go_ret
          exact ⟨rfl, B⟩
end
end Go.Proofs.YthindhlogkhclaaDoor
section
namespace Go.Proofs
open Go.Shelf
end Go.Proofs
end
namespace Go.Proofs.YthindhlogkhclaaDoor
section
open Go.RowKit
def Pow (w : World) : Prop := Lib.TabIs Tryd.prog w "internal/strconv.uint64pow10" .u64 Lib.pow10Tab
theorem Pow.below {w w' : World} (h : Pow w) (b : Below w.heap.size w w') : Pow w' := Lib.tabBelow_of_tabIs h w' b
theorem cell_marked (w : World) (C : Array Value) (e : TypeId) (f : Nat × Nat) (i : Nat) : (w.alloc (.cells C e f)).cell? ⟨w.heap.size, i, none⟩ = C[i]? :=
  cell_of_row _ _ i C e f (by show (w.heap.push _)[w.heap.size]? = _; rw [Array.getElem?_push_size])
def nofit (d k : Nat) : Prop := (1 ≤ k → ¬ (0 < d ∧ d % 365 = 0)) ∧ (2 ≤ k → ¬ (0 < d ∧ d % 30 = 0)) ∧ (3 ≤ k → ¬ (0 < d ∧ d % 7 = 0))
end
section
open Go.RowKit
theorem unit_str (d : Nat) : ∀ W : World, (convert 5 9 (.int .u8 ((greatD d).toNat : Int))).run Tryd.prog W = .ok (.string ⟨[greatD d].toArray⟩) W := fun W => by
  rw [run_convert_int_string W 5 9 .u8 _ (by rw [Tryd.underlying5]; rfl) Tryd.underlying9]
  rcases great_unit d with h | h | h | h
  all_goals rw [h.1]
  · rw [show Utf8.encode (((100 : UInt8).toNat : Nat) : Int) = ⟨[(100 : UInt8)].toArray⟩ by kernel_rfl]
  · rw [show Utf8.encode (((119 : UInt8).toNat : Nat) : Int) = ⟨[(119 : UInt8)].toArray⟩ by kernel_rfl]
  · rw [show Utf8.encode (((109 : UInt8).toNat : Nat) : Int) = ⟨[(109 : UInt8)].toArray⟩ by kernel_rfl]
  · rw [show Utf8.encode (((121 : UInt8).toNat : Nat) : Int) = ⟨[(121 : UInt8)].toArray⟩ by kernel_rfl]
theorem i64_nat {q : Nat} (h : q ≤ 1048576) : I64 (q : Int) := ⟨by omega, by omega⟩
end
section
open Go.RowKit
theorem digit_one_fin : ∀ r : Fin 10, (([48, 49, 50, 51, 52, 53, 54, 55, 56, 57] : List UInt8).drop r.val).take (r.val + 1 - r.val) = [UInt8.ofNat (48 + r.val)] := by decide
theorem digit_txt (r : Nat) (hr : r < 10) : ∀ W : World, (Instr.slice 9 (.string { data := #[48, 49, 50, 51, 52, 53, 54, 55, 56, 57] }) (some (.int .u64 (r : Int))) (some (.int .u64 ((r : Int) + 1))) none).run Tryd.prog W = .ok (.string ⟨[UInt8.ofNat (48 + r)].toArray⟩) W := fun W => by
  have h := txt_mid [48, 49, 50, 51, 52, 53, 54, 55, 56, 57] .u64 .u64 r (r + 1) (by omega) (by simp; omega) W
  rw [digit_one_fin ⟨r, hr⟩] at h
  exact h
def restD (m : Nat) : List UInt8 := if m = 0 then [] else Lib.decDigits m
theorem digits_step (m : Nat) : Lib.decDigits m = restD (m / 10) ++ [UInt8.ofNat (48 + m % 10)] := by
  unfold restD
  by_cases h : m < 10
  · rw [if_pos (by omega), Lib.decDigits_one h, Nat.mod_eq_of_lt h]; rfl
  · rw [if_neg (by omega), Lib.decDigits, dif_neg h]
theorem rest_step {m : Nat} {t l : List UInt8} (h0 : 0 < m) (h : restD m ++ t = l) : restD (m / 10) ++ (UInt8.ofNat (48 + m % 10) :: t) = l := by
  rw [← h]
  have e : restD m = Lib.decDigits m := by unfold restD; rw [if_neg (by omega)]
  rw [e, digits_step m, List.append_assoc]
  rfl
set_option maxHeartbeats 2000000 in
theorem tell_any (n : Nat) (hn : n < 18446744073709551616) (w : World) :
    Calls Tryd.prog 46 #[.int .u64 (n : Int)] w fun e w' => e = .returned (strV (Lib.decDigits n)) ∧ w = w' := by
  obtain ⟨r, hr⟩ : ∃ r, r = n % 10 := ⟨_, rfl⟩
  obtain ⟨q, hq⟩ : ∃ q, q = n / 10 := ⟨_, rfl⟩
  have er : Int.tmod (n : Int) 10 = (r : Int) := by rw [hr]; rfl
  have eq : Int.tdiv (n : Int) 10 = (q : Int) := by rw [hq]; rfl
  have hr10 : r < 10 := by omega
  have hdt := digit_txt r hr10
  have hst : Hid (restD q ++ [UInt8.ofNat (48 + r)] = Lib.decDigits n) := by rw [hq, hr]; exact (digits_step n).symm
  have hlen : (Lib.decDigits n).length ≤ 20 := by rw [Lib.decDigits_length]; exact Lib.nDigits_le20 n hn
  obtain ⟨l, hl⟩ : ∃ l, l = Lib.decDigits n := ⟨_, rfl⟩
  rw [← hl] at hst hlen ⊢
  have hq2 : q ≤ n := by omega
  unfold strV
  obtain ⟨t0, ht0⟩ : ∃ t, t = [UInt8.ofNat (48 + r)] := ⟨_, rfl⟩
  rw [← ht0] at hst hdt
  obtain ⟨s0, hs0⟩ : ∃ s : ByteArray, s = ⟨t0.toArray⟩ := ⟨_, rfl⟩
  rw [← hs0] at hdt
  have HS0 := Lib.hid hs0
  obtain ⟨lv, hlv⟩ : ∃ s : ByteArray, s = ⟨l.toArray⟩ := ⟨_, rfl⟩
  rw [← hlv]
  have HLV := Lib.hid hlv
  have HLEN := Lib.hid hlen
  clear hl ht0 hs0 hlv hr hq hlen
  go_enter Tryd.func46, Tryd.ntmps46
  go_wp2
  clear er eq hr10 hdt
  go_loop [0, 3] (fun nv sv => ∃ (m : Nat) (t : List UInt8) (s : ByteArray), m ≤ n ∧ nv = .int .u64 m ∧ sv = .string s ∧ Hid (s = ⟨t.toArray⟩) ∧ Hid (restD m ++ t = l)) (fun nv _ => (intOf nv).toNat)
  case atStart => exact ⟨q, t0, s0, hq2, rfl, rfl, HS0, hst⟩
  case round =>
    obtain ⟨m, t, s, hmn, rfl, rfl, hs, ht⟩ := hrel
    by_cases h0 : 0 < m
    · obtain ⟨r2, hr⟩ : ∃ r, r = m % 10 := ⟨_, rfl⟩
      obtain ⟨q2, hq⟩ : ∃ q, q = m / 10 := ⟨_, rfl⟩
      have er : Int.tmod (m : Int) 10 = (r2 : Int) := by rw [hr]; rfl
      have eq : Int.tdiv (m : Int) 10 = (q2 : Int) := by rw [hq]; rfl
      have hr10 : r2 < 10 := by omega
      have hdt := digit_txt r2 hr10
      have ht2 := rest_step h0 ht.out
      rw [← hr, ← hq] at ht2
      have hlt : t.length ≤ 20 := by
        have := congrArg List.length ht.out
        rw [List.length_append] at this
        have := HLEN.out
        omega
      have hadd := txt_add [UInt8.ofNat (48 + r2)] t (by simp; omega)
      rw [← hs.out] at hadd
      obtain ⟨s1, hs1⟩ : ∃ s : ByteArray, s = ⟨[UInt8.ofNat (48 + r2)].toArray⟩ := ⟨_, rfl⟩
      obtain ⟨s2, hs2⟩ : ∃ s : ByteArray, s = ⟨([UInt8.ofNat (48 + r2)] ++ t).toArray⟩ := ⟨_, rfl⟩
      rw [← hs1] at hdt hadd
      rw [← hs2] at hadd
      have HS2 := Lib.hid hs2
      have HT2 := Lib.hid ht2
      have hq3 : q2 < m := by omega
      clear hs1 hs2 ht2 hs ht hlt hr hq HLEN HLV HS0 hst
      go_wp2
      go_round
      case rel => exact ⟨q2, [UInt8.ofNat (48 + r2)] ++ t, s2, by omega, by go_num, rfl, HS2, HT2⟩
      case measure => simp [intOf]; omega
    · obtain rfl : m = 0 := by omega
      have e : lv = s := by
        rw [HLV.out, hs.out, ← ht.out]
        rfl
      subst e
      clear hs ht HLEN HLV HS0 hst
      go_wp2
      go_ret
      exact ⟨rfl, rfl⟩
theorem rtell_any (n : Nat) (hn : n ≤ 1048576) (w : World) :
    Calls Tryd.prog 27 #[.int .i64 (n : Int)] w fun e w' => e = .returned (strV (Lib.decDigits n)) ∧ w = w' := by
  have ht := tell_any n (by omega)
  generalize strV (Lib.decDigits n) = v at *
  go_enter Tryd.func27, Tryd.ntmps27
  go_wp2_with (go_at_call 46; refine (ht _).mono ?_; rintro e w' ⟨rfl, rfl⟩)
  go_ret
  exact ⟨rfl, rfl⟩
end
section
open Go.RowKit
set_option maxHeartbeats 600000 in
theorem rtext15_any (n : Int) (w : World) :
    Calls Tryd.prog 20 #[.int .i64 n] w fun e w' => e = .returned (strV (textD n)) ∧ Below w.heap.size w w' := by
  by_cases h1 : n < 0
  · have et : textD n = [] := (text_none n).2 (by omega)
    rw [et]
    clear et
    go_enter Tryd.func20, Tryd.ntmps20
    go_wp2
    go_ret
    exact ⟨rfl, Below.refl _ _⟩
  by_cases h2 : 1048576 < n
  · have et : textD n = [] := (text_none n).2 (by omega)
    rw [et]
    clear et
    go_enter Tryd.func20, Tryd.ntmps20
    go_wp2
    go_ret
    exact ⟨rfl, Below.refl _ _⟩
  obtain ⟨d, rfl⟩ : ∃ d : Nat, n = (d : Int) := ⟨n.toNat, by omega⟩
  have hd : d ≤ 1048576 := by omega
  have et : textD (d : Int) = Lib.decDigits (d / unitD (greatD d).toNat) ++ [greatD d] := by
    unfold textD
    rw [if_neg (by omega), Int.toNat_natCast]
  obtain ⟨g, hg⟩ : ∃ g, g = greatD d := ⟨_, rfl⟩
  rw [et, ← hg]
  clear et h1 h2
  by_cases hd0 : d = 0
  · have eg : g = 100 := by rw [hg]; unfold greatD; rw [if_pos hd0]
    subst eg
    subst hd0
    have e0 : strV (Lib.decDigits (0 / unitD (100 : UInt8).toNat) ++ [100]) = .string { data := #[48, 100] } := by
      rw [show 0 / unitD (100 : UInt8).toNat = 0 from rfl, Lib.decDigits_one (by omega)]
      rfl
    rw [e0]
    clear hg hd e0
    go_enter Tryd.func20, Tryd.ntmps20
    go_wp2
    go_loop [4] (fun i => i = .int .i64 0) (fun i => 0)
    case atStart => exact rfl
    case round =>
      subst hrel
      go_wp2
      go_ret
      exact ⟨rfl, Below.refl _ _⟩
  have HG := Lib.hid hg
  have hdp : 0 < d := by omega
  obtain ⟨v, hv⟩ : ∃ v : ByteArray, v = ⟨(Lib.decDigits (d / unitD g.toNat) ++ [g]).toArray⟩ := ⟨_, rfl⟩
  unfold strV
  rw [← hv]
  have HV := Lib.hid hv
  clear hv
  have u0 : ∀ w, Calls Tryd.prog 26 #[.int .u8 121] w fun e w' => e = .returned (.int .i64 365) ∧ w' = w := fun w => (unit15_any 121 w).mono fun e w' h => ⟨h.1, h.2.symm⟩
  have i0 : ∀ W : World, (Instr.index 9 (.string { data := #[121, 109, 119, 100] }) (.int .i64 0)).run Tryd.prog W = .ok (.int .u8 121) W := txt_at [121, 109, 119, 100] 0 121 rfl
  have s0 : ∀ W : World, (Instr.slice 9 (.string { data := #[121, 109, 119, 100] }) (some (.int .i64 0)) (some (.int .i64 1)) none).run Tryd.prog W = .ok (.string ⟨[(121 : UInt8)].toArray⟩) W := txt_mid [121, 109, 119, 100] .i64 .i64 0 1 (by omega) (by simp)
  have F0 := Lib.hid (And.intro u0 (And.intro i0 s0))
  have u1 : ∀ w, Calls Tryd.prog 26 #[.int .u8 109] w fun e w' => e = .returned (.int .i64 30) ∧ w' = w := fun w => (unit15_any 109 w).mono fun e w' h => ⟨h.1, h.2.symm⟩
  have i1 : ∀ W : World, (Instr.index 9 (.string { data := #[121, 109, 119, 100] }) (.int .i64 1)).run Tryd.prog W = .ok (.int .u8 109) W := txt_at [121, 109, 119, 100] 1 109 rfl
  have s1 : ∀ W : World, (Instr.slice 9 (.string { data := #[121, 109, 119, 100] }) (some (.int .i64 1)) (some (.int .i64 2)) none).run Tryd.prog W = .ok (.string ⟨[(109 : UInt8)].toArray⟩) W := txt_mid [121, 109, 119, 100] .i64 .i64 1 2 (by omega) (by simp)
  have F1 := Lib.hid (And.intro u1 (And.intro i1 s1))
  have u2 : ∀ w, Calls Tryd.prog 26 #[.int .u8 119] w fun e w' => e = .returned (.int .i64 7) ∧ w' = w := fun w => (unit15_any 119 w).mono fun e w' h => ⟨h.1, h.2.symm⟩
  have i2 : ∀ W : World, (Instr.index 9 (.string { data := #[121, 109, 119, 100] }) (.int .i64 2)).run Tryd.prog W = .ok (.int .u8 119) W := txt_at [121, 109, 119, 100] 2 119 rfl
  have s2 : ∀ W : World, (Instr.slice 9 (.string { data := #[121, 109, 119, 100] }) (some (.int .i64 2)) (some (.int .i64 3)) none).run Tryd.prog W = .ok (.string ⟨[(119 : UInt8)].toArray⟩) W := txt_mid [121, 109, 119, 100] .i64 .i64 2 3 (by omega) (by simp)
  have F2 := Lib.hid (And.intro u2 (And.intro i2 s2))
  have u3 : ∀ w, Calls Tryd.prog 26 #[.int .u8 100] w fun e w' => e = .returned (.int .i64 1) ∧ w' = w := fun w => (unit15_any 100 w).mono fun e w' h => ⟨h.1, h.2.symm⟩
  have i3 : ∀ W : World, (Instr.index 9 (.string { data := #[121, 109, 119, 100] }) (.int .i64 3)).run Tryd.prog W = .ok (.int .u8 100) W := txt_at [121, 109, 119, 100] 3 100 rfl
  have s3 : ∀ W : World, (Instr.slice 9 (.string { data := #[121, 109, 119, 100] }) (some (.int .i64 3)) (some (.int .i64 4)) none).run Tryd.prog W = .ok (.string ⟨[(100 : UInt8)].toArray⟩) W := txt_mid [121, 109, 119, 100] .i64 .i64 3 4 (by omega) (by simp)
  have F3 := Lib.hid (And.intro u3 (And.intro i3 s3))
  clear u0 u1 u2 u3 i0 i1 i2 i3 s0 s1 s2 s3 hg hd0
  go_enter Tryd.func20, Tryd.ntmps20
  go_wp2
  go_loop [4] (fun i => ∃ k : Nat, k ≤ 3 ∧ i = .int .i64 k ∧ Hid (nofit d k)) (fun i => 3 - (intOf i).toNat)
  case atStart => exact ⟨0, by omega, rfl, ⟨fun h => by omega, fun h => by omega, fun h => by omega⟩⟩
  case round =>
    obtain ⟨k, hk, rfl, hf⟩ := hrel
    match k, hk with
    | 0, _ =>
      obtain ⟨hun, hix, hsl⟩ := F0.out
      by_cases hr : d % 365 = 0
      · have er : Int.tmod (d : Int) 365 = 0 := by rw [Int.tmod_eq_emod_of_nonneg (by omega)]; omega
        have eg : g = 121 := by rw [HG.out]; unfold greatD; rw [if_neg (by omega), if_pos hr]
        subst eg
        obtain ⟨q, hq⟩ : ∃ q, q = d / 365 := ⟨_, rfl⟩
        have eq : Int.tdiv (d : Int) 365 = (q : Int) := by rw [hq]; rfl
        have hq2 : q ≤ 1048576 := Nat.le_trans (by rw [hq]; exact Nat.div_le_self _ _) hd
        have ew : IntKind.i64.wrap (q : Int) = (q : Int) := by rw [IntKind.wrap_i64]; omega
        have htl := fun w => (rtell_any q hq2 w).mono fun e w' h => (⟨h.1, h.2.symm⟩ : e = .returned (strV (Lib.decDigits q)) ∧ w' = w)
        have hlen : (Lib.decDigits q).length ≤ 7 := by rw [Lib.decDigits_length]; exact nDigits_seven q hq2
        have hadd := txt_add (Lib.decDigits q) [(121 : UInt8)] (by simp; omega)
        unfold strV at htl
        obtain ⟨s1, hs1⟩ : ∃ s : ByteArray, s = ⟨(Lib.decDigits q).toArray⟩ := ⟨_, rfl⟩
        obtain ⟨s2, hs2⟩ : ∃ s : ByteArray, s = ⟨[(121 : UInt8)].toArray⟩ := ⟨_, rfl⟩
        have hs3 : v = ⟨(Lib.decDigits q ++ [(121 : UInt8)]).toArray⟩ := by rw [HV.out, hq, show unitD (121 : UInt8).toNat = 365 by decide]
        rw [← hs1] at htl hadd
        rw [← hs2] at hsl hadd
        rw [← hs3] at hadd
        clear hs1 hs2 hs3 hlen hf HG HV F0 F1 F2 F3 hq
        go_wp2_with (go_at_call 26; refine (hun _).mono ?_; rintro e w' ⟨rfl, rfl⟩)
        go_quiet (first | (go_at_call 26; exact Calls.quiet_of_same (hun _)) | (go_at_call 27; exact Calls.quiet_of_same (htl _)) | fail)
        go_wp2
        go_ret
        exact ⟨rfl, Below_drawn (Below.refl _ _) _⟩
      · have er : (Int.tmod (d : Int) 365 == 0) = false := beq_eq_false_iff_ne.2 (by rw [Int.tmod_eq_emod_of_nonneg (by omega)]; omega)
        have hf2 : Hid (nofit d 1) := ⟨fun _ h => hr h.2, fun h => by omega, fun h => by omega⟩
        clear hf HG HV F0 F1 F2 F3 hsl
        go_wp2_with (go_at_call 26; refine (hun _).mono ?_; rintro e w' ⟨rfl, rfl⟩)
        go_round
        case rel => exact ⟨1, by omega, by go_num, hf2⟩
        case measure => simp [intOf]
    | 1, _ =>
      obtain ⟨hun, hix, hsl⟩ := F1.out
      by_cases hr : d % 30 = 0
      · have er : Int.tmod (d : Int) 30 = 0 := by rw [Int.tmod_eq_emod_of_nonneg (by omega)]; omega
        have eg : g = 109 := by rw [HG.out]; unfold greatD; rw [if_neg (by omega), if_neg (fun h => hf.out.1 (by omega) ⟨hdp, h⟩), if_pos hr]
        subst eg
        obtain ⟨q, hq⟩ : ∃ q, q = d / 30 := ⟨_, rfl⟩
        have eq : Int.tdiv (d : Int) 30 = (q : Int) := by rw [hq]; rfl
        have hq2 : q ≤ 1048576 := Nat.le_trans (by rw [hq]; exact Nat.div_le_self _ _) hd
        have ew : IntKind.i64.wrap (q : Int) = (q : Int) := by rw [IntKind.wrap_i64]; omega
        have htl := fun w => (rtell_any q hq2 w).mono fun e w' h => (⟨h.1, h.2.symm⟩ : e = .returned (strV (Lib.decDigits q)) ∧ w' = w)
        have hlen : (Lib.decDigits q).length ≤ 7 := by rw [Lib.decDigits_length]; exact nDigits_seven q hq2
        have hadd := txt_add (Lib.decDigits q) [(109 : UInt8)] (by simp; omega)
        unfold strV at htl
        obtain ⟨s1, hs1⟩ : ∃ s : ByteArray, s = ⟨(Lib.decDigits q).toArray⟩ := ⟨_, rfl⟩
        obtain ⟨s2, hs2⟩ : ∃ s : ByteArray, s = ⟨[(109 : UInt8)].toArray⟩ := ⟨_, rfl⟩
        have hs3 : v = ⟨(Lib.decDigits q ++ [(109 : UInt8)]).toArray⟩ := by rw [HV.out, hq, show unitD (109 : UInt8).toNat = 30 by decide]
        rw [← hs1] at htl hadd
        rw [← hs2] at hsl hadd
        rw [← hs3] at hadd
        clear hs1 hs2 hs3 hlen hf HG HV F0 F1 F2 F3 hq
        go_wp2_with (go_at_call 26; refine (hun _).mono ?_; rintro e w' ⟨rfl, rfl⟩)
        go_quiet (first | (go_at_call 26; exact Calls.quiet_of_same (hun _)) | (go_at_call 27; exact Calls.quiet_of_same (htl _)) | fail)
        go_wp2
        go_ret
        exact ⟨rfl, Below_drawn (Below.refl _ _) _⟩
      · have er : (Int.tmod (d : Int) 30 == 0) = false := beq_eq_false_iff_ne.2 (by rw [Int.tmod_eq_emod_of_nonneg (by omega)]; omega)
        have hf2 : Hid (nofit d 2) := ⟨fun h => hf.out.1 (by omega), fun _ h => hr h.2, fun h => by omega⟩
        clear hf HG HV F0 F1 F2 F3 hsl
        go_wp2_with (go_at_call 26; refine (hun _).mono ?_; rintro e w' ⟨rfl, rfl⟩)
        go_round
        case rel => exact ⟨2, by omega, by go_num, hf2⟩
        case measure => simp [intOf]
    | 2, _ =>
      obtain ⟨hun, hix, hsl⟩ := F2.out
      by_cases hr : d % 7 = 0
      · have er : Int.tmod (d : Int) 7 = 0 := by rw [Int.tmod_eq_emod_of_nonneg (by omega)]; omega
        have eg : g = 119 := by rw [HG.out]; unfold greatD; rw [if_neg (by omega), if_neg (fun h => hf.out.1 (by omega) ⟨hdp, h⟩), if_neg (fun h => hf.out.2.1 (by omega) ⟨hdp, h⟩), if_pos hr]
        subst eg
        obtain ⟨q, hq⟩ : ∃ q, q = d / 7 := ⟨_, rfl⟩
        have eq : Int.tdiv (d : Int) 7 = (q : Int) := by rw [hq]; rfl
        have hq2 : q ≤ 1048576 := Nat.le_trans (by rw [hq]; exact Nat.div_le_self _ _) hd
        have ew : IntKind.i64.wrap (q : Int) = (q : Int) := by rw [IntKind.wrap_i64]; omega
        have htl := fun w => (rtell_any q hq2 w).mono fun e w' h => (⟨h.1, h.2.symm⟩ : e = .returned (strV (Lib.decDigits q)) ∧ w' = w)
        have hlen : (Lib.decDigits q).length ≤ 7 := by rw [Lib.decDigits_length]; exact nDigits_seven q hq2
        have hadd := txt_add (Lib.decDigits q) [(119 : UInt8)] (by simp; omega)
        unfold strV at htl
        obtain ⟨s1, hs1⟩ : ∃ s : ByteArray, s = ⟨(Lib.decDigits q).toArray⟩ := ⟨_, rfl⟩
        obtain ⟨s2, hs2⟩ : ∃ s : ByteArray, s = ⟨[(119 : UInt8)].toArray⟩ := ⟨_, rfl⟩
        have hs3 : v = ⟨(Lib.decDigits q ++ [(119 : UInt8)]).toArray⟩ := by rw [HV.out, hq, show unitD (119 : UInt8).toNat = 7 by decide]
        rw [← hs1] at htl hadd
        rw [← hs2] at hsl hadd
        rw [← hs3] at hadd
        clear hs1 hs2 hs3 hlen hf HG HV F0 F1 F2 F3 hq
        go_wp2_with (go_at_call 26; refine (hun _).mono ?_; rintro e w' ⟨rfl, rfl⟩)
        go_quiet (first | (go_at_call 26; exact Calls.quiet_of_same (hun _)) | (go_at_call 27; exact Calls.quiet_of_same (htl _)) | fail)
        go_wp2
        go_ret
        exact ⟨rfl, Below_drawn (Below.refl _ _) _⟩
      · have er : (Int.tmod (d : Int) 7 == 0) = false := beq_eq_false_iff_ne.2 (by rw [Int.tmod_eq_emod_of_nonneg (by omega)]; omega)
        have hf2 : Hid (nofit d 3) := ⟨fun h => hf.out.1 (by omega), fun h => hf.out.2.1 (by omega), fun _ h => hr h.2⟩
        clear hf HG HV F0 F1 F2 F3 hsl
        go_wp2_with (go_at_call 26; refine (hun _).mono ?_; rintro e w' ⟨rfl, rfl⟩)
        go_round
        case rel => exact ⟨3, by omega, by go_num, hf2⟩
        case measure => simp [intOf]
    | 3, _ =>
      obtain ⟨hun, hix, hsl⟩ := F3.out
      have er : Int.tmod (d : Int) 1 = 0 := by rw [Int.tmod_eq_emod_of_nonneg (by omega)]; omega
      have eg : g = 100 := by rw [HG.out]; unfold greatD; rw [if_neg (by omega), if_neg (fun h => hf.out.1 (by omega) ⟨hdp, h⟩), if_neg (fun h => hf.out.2.1 (by omega) ⟨hdp, h⟩), if_neg (fun h => hf.out.2.2 (by omega) ⟨hdp, h⟩)]
      subst eg
      obtain ⟨q, hq⟩ : ∃ q, q = d / 1 := ⟨_, rfl⟩
      have hqd : q = d := by rw [hq, Nat.div_one]
      have eq : (d : Int) = (q : Int) := by rw [hqd]
      have hq2 : q ≤ 1048576 := by omega
      have ew : IntKind.i64.wrap (q : Int) = (q : Int) := by rw [IntKind.wrap_i64]; omega
      have htl := fun w => (rtell_any q hq2 w).mono fun e w' h => (⟨h.1, h.2.symm⟩ : e = .returned (strV (Lib.decDigits q)) ∧ w' = w)
      have hlen : (Lib.decDigits q).length ≤ 7 := by rw [Lib.decDigits_length]; exact nDigits_seven q hq2
      have hadd := txt_add (Lib.decDigits q) [(100 : UInt8)] (by simp; omega)
      unfold strV at htl
      obtain ⟨s1, hs1⟩ : ∃ s : ByteArray, s = ⟨(Lib.decDigits q).toArray⟩ := ⟨_, rfl⟩
      obtain ⟨s2, hs2⟩ : ∃ s : ByteArray, s = ⟨[(100 : UInt8)].toArray⟩ := ⟨_, rfl⟩
      have hs3 : v = ⟨(Lib.decDigits q ++ [(100 : UInt8)]).toArray⟩ := by rw [HV.out, hq, show unitD (100 : UInt8).toNat = 1 by decide]
      rw [← hs1] at htl hadd
      rw [← hs2] at hsl hadd
      rw [← hs3] at hadd
      clear hs1 hs2 hs3 hlen hf HG HV F0 F1 F2 F3 hq
      subst hqd
      clear eq
      go_wp2_with (go_at_call 26; refine (hun _).mono ?_; rintro e w' ⟨rfl, rfl⟩)
      go_quiet (first | (go_at_call 26; exact Calls.quiet_of_same (hun _)) | (go_at_call 27; exact Calls.quiet_of_same (htl _)) | fail)
      go_wp2
      go_ret
      exact ⟨rfl, Below_drawn (Below.refl _ _) _⟩
end
section
open Go.RowKit
theorem ract_any (n : Int) (w : World) : Calls Tryd.prog 15 #[.int .i64 n] w fun e w' => e = .returned (strV (actS n)) ∧ w = w' := by
  by_cases h1 : n = 1
  · subst h1
    go_enter Tryd.func15, Tryd.ntmps15
    go_wp2
    go_ret
    exact ⟨rfl, rfl⟩
  by_cases h2 : n = 2
  · subst h2
    go_enter Tryd.func15, Tryd.ntmps15
    go_wp2
    go_ret
    exact ⟨rfl, rfl⟩
  have e : actS n = [107, 101, 101, 112] := by unfold actS; rw [if_neg h1, if_neg h2]
  rw [e]
  have E1 : (n == 1) = false := beq_eq_false_iff_ne.2 h1
  have E2 : (n == 2) = false := beq_eq_false_iff_ne.2 h2
  clear e
  go_enter Tryd.func15, Tryd.ntmps15
  go_wp2
  go_ret
  exact ⟨rfl, rfl⟩
theorem join_first {parts : List (List UInt8)} {q : List UInt8} (sp : List UInt8) (h : parts[0]? = some q) : Lib.join (parts.take 1) sp = Lib.join (parts.take 0) sp ++ q := by
  cases parts with
  | nil => simp at h
  | cons a l =>
    simp at h
    subst h
    simp [Lib.join_one, Lib.join_nil]
theorem join_next {parts : List (List UInt8)} {j : Nat} {q : List UInt8} (sp : List UInt8) (hj : 0 < j) (h : parts[j]? = some q) : Lib.join (parts.take (j + 1)) sp = Lib.join (parts.take j) sp ++ sp ++ q := by
  cases parts with
  | nil => simp at h
  | cons a l =>
    obtain ⟨i, rfl⟩ : ∃ i, j = i + 1 := ⟨j - 1, by omega⟩
    rw [List.take_succ_cons, List.take_succ_cons, Lib.join_cons, Lib.join_cons, Lib.joinTail_take_succ sp l i q (by simpa using h)]
    simp [List.append_assoc]
theorem wrr_many (f : Nat) (x : Nx (Ex f)) (h : x.op ≠ 1) : exprX (f + 1) x = Lib.join (x.kids.map fun u => brX x.op (opX f u) (exprX f u)) (sepX x.op) := by rw [expr_eq, if_neg h]
theorem brr_no {p k : Int} (t : List UInt8) (h2 : k ≠ 2) (h3 : k = 3 → p ≠ 3) : brX p k t = t := by
  unfold brX
  rw [if_neg (by rintro (h | ⟨h, h'⟩); exact h2 h; exact h3 h h')]
theorem brr_yes {p k : Int} (t : List UInt8) (h : k = 2 ∨ (k = 3 ∧ p = 3)) : brX p k t = 40 :: (t ++ [41]) := by
  unfold brX
  rw [if_pos h]
set_option maxHeartbeats 8000000 in
theorem rone_any (dy : Int) (l : List UInt8) (k3 : Value) (A3 : Option Addr) (n3 z3 : Nat) (w : World) (hk3 : k3 = .slice A3 n3 z3) (hl : l.length ≤ 16) :
    Calls Tryd.prog 14 #[.agg #[.int .i64 1, .int .i64 dy, strV l, k3]] w fun e w' => e = .returned (strV (textD dy ++ afterW ++ l)) ∧ Below w.heap.size w w' := by
  subst hk3
  have htx := rtext15_any dy
  have hlt := text_len dy
  have ha1 := txt_add (textD dy) afterW (by unfold afterW; simp; omega)
  have ha2 := txt_add (textD dy ++ afterW) l (by unfold afterW; simp; omega)
  clear hlt hl
  unfold strV at *
  generalize (⟨(textD dy ++ afterW ++ l).toArray⟩ : ByteArray) = s3 at *
  generalize (⟨(textD dy ++ afterW).toArray⟩ : ByteArray) = s2 at *
  generalize (⟨(textD dy).toArray⟩ : ByteArray) = s1 at *
  generalize (⟨l.toArray⟩ : ByteArray) = s at *
  unfold afterW at ha1
  have B0 := (Below.refl w.heap.size w).alloc (Nat.le_refl _) (.cells #[.int .i64 1, .int .i64 dy, .string s, .slice A3 n3 z3] 37)
  have K0 := KB.new w 37 #[.int .i64 1, .int .i64 dy, .string s, .slice A3 n3 z3]
  go_enter Tryd.func14, Tryd.ntmps14
  go_wp2_with fail
  generalize w.alloc (.cells #[.int .i64 1, .int .i64 dy, .string s, .slice A3 n3 z3] 37) = w0 at *
  have HC : Hid (∀ W, Below w0.heap.size w0 W → W.cell? ⟨w.heap.size, 1, none⟩ = some (.int .i64 dy) ∧ W.cell? ⟨w.heap.size, 2, none⟩ = some (.string s)) := fun W h => ⟨(K0.below h K0.lt).cell 1, (K0.below h K0.lt).cell 2⟩
  have Bd : Below w.heap.size w w0.drew := Below_drawn B0 1
  have Bdd : Below w0.heap.size w0 w0.drew := Below_drawn (Below.refl _ _) 1
  have hst := htx w0.drew
  clear htx K0 B0
  rename_i KK hKK
  have HKK := Lib.hid hKK
  clear hKK
  refine wp_region_held_drew (S := (fun W => W.cell? ⟨w.heap.size, 1, none⟩ = some (.int .i64 dy) ∧ W.cell? ⟨w.heap.size, 2, none⟩ = some (.string s))) (by kernel_rfl) (HC.out _ Bdd) (fun hHeld => ?_)
  refine hyY (some 10) 0 rfl hHeld ?_; go_frame
  refine hyY (some 11) 1 rfl hHeld ?_; go_frame
  refine hyY (some 14) 4 rfl hHeld ?_; go_frame
  refine hyY (some 15) 5 rfl hHeld ?_; go_frame
  refine hyO (some 12) 2 rfl (fun K hK => ?_)
  go_simp
  go_at_call 20
  refine hst.mono ?_
  rintro e w2 ⟨rfl, b2⟩
  go_wp2_with fail
  refine hK.out _ _ ?_ (fun hH2 => ?_)
  · exact HC.out _ (Bdd.trans b2)
  clear hHeld hK K; have hHeld := hH2; clear hH2; try go_frame
  refine hyY (some 13) 3 rfl hHeld ?_; go_frame
  refine hyY (some 16) 6 rfl hHeld ?_; go_frame
  refine hyY (some 2) 7 rfl hHeld ?_; go_frame
  refine wpAnyH_done (by kernel_rfl) ?_ _
  have hKK := HKK.out
  go_wp2_with fail
  go_ret
  exact ⟨rfl, Bd.trans (b2.mono Bd.size)⟩
set_option maxHeartbeats 16000000 in
theorem rexpr_any (S : Nat → Prop) : ∀ (f : Nat) (x : Ex f) (d : Int) (v : Value) (w : World), okX f x d = true → nodesX f x ≤ 24 → EV w S f v x →
    Calls Tryd.prog 14 #[v] w fun e w' => e = .returned (strV (exprX f x)) ∧ Below w.heap.size w w' := by
  intro f
  induction f with
  | zero => intro x; exact nomatch x
  | succ f ih =>
    intro x d v w hok hno hv
    obtain ⟨c0, c1, c2, c3, rfl, rfl, hk, rfl, hdy, rfl, hml, hks⟩ := hv
    obtain ⟨A3, cap3, e3, hl3, hm3⟩ := hks.form
    subst e3
    have hfit := ok_fits (x := (x : Nx (Ex f))) hok
    by_cases h1 : (x : Nx (Ex f)).op = 1
    · obtain ⟨_, _, hw, _⟩ := fits_one hfit h1
      have := rone_any (x : Nx (Ex f)).days (x : Nx (Ex f)).mile _ _ _ w rfl (word_sixteen hw).1 (k3 := .slice A3 (x : Nx (Ex f)).kids.length cap3)
      have e : exprX (f + 1) x = textD (x : Nx (Ex f)).days ++ afterW ++ (x : Nx (Ex f)).mile := (expr_eq f x).trans (if_pos h1)
      rw [e, h1]
      exact this
    obtain ⟨h23, hd0, hm0, h2k⟩ := fits_many hfit h1
    have hr : exprX (f + 1) x = Lib.join ((x : Nx (Ex f)).kids.map fun u => brX (x : Nx (Ex f)).op (opX f u) (exprX f u)) (sepX (x : Nx (Ex f)).op) := wrr_many f x h1
    rw [hr]
    have hpart : ∀ (j : Nat) (hj : j < (x : Nx (Ex f)).kids.length), ((x : Nx (Ex f)).kids.map fun u => brX (x : Nx (Ex f)).op (opX f u) (exprX f u))[j]? = some (brX (x : Nx (Ex f)).op (opX f (x : Nx (Ex f)).kids[j]) (exprX f (x : Nx (Ex f)).kids[j])) := fun j hj => by
      rw [List.getElem?_map, List.getElem?_eq_getElem hj]; rfl
    have HPART := Lib.hid hpart
    have hpl : ((x : Nx (Ex f)).kids.map fun u => brX (x : Nx (Ex f)).op (opX f u) (exprX f u)).length = (x : Nx (Ex f)).kids.length := by simp
    have HKOK : Hid (∀ (j : Nat) (hj : j < (x : Nx (Ex f)).kids.length), okX f (x : Nx (Ex f)).kids[j] (d - 1) = true ∧ nodesX f (x : Nx (Ex f)).kids[j] ≤ 24 ∧ (exprX f (x : Nx (Ex f)).kids[j]).length ≤ 1000) := fun j hj => by
      have h1 := ok_kid (x := (x : Nx (Ex f))) hok (List.getElem_mem hj)
      have h2 := nodes_kid (x := (x : Nx (Ex f))) hj
      have h4 : nodesX f (x : Nx (Ex f)).kids[j] + (x : Nx (Ex f)).kids.length ≤ 24 := Nat.le_trans h2 hno
      have h3 := expr_len f _ (d - 1) h1
      exact ⟨h1, by omega, by omega⟩
    have hkl24 : (x : Nx (Ex f)).kids.length ≤ 24 := by
      have h2 := nodes_kid (x := (x : Nx (Ex f))) (j := 0) (by omega)
      have h4 : nodesX f (x : Nx (Ex f)).kids[0] + (x : Nx (Ex f)).kids.length ≤ 24 := Nat.le_trans h2 hno
      omega
    clear hpart hok hno hfit hr h2k hdy hml
    rw [hd0, hm0]
    generalize ((x : Nx (Ex f)).kids.map fun u => brX (x : Nx (Ex f)).op (opX f u) (exprX f u)) = parts at *
    generalize (x : Nx (Ex f)).op = k at *
    generalize (x : Nx (Ex f)).kids = ks at *
    clear hd0 hm0 x
    obtain ⟨r, hr⟩ : ∃ r, r = Lib.join parts (sepX k) := ⟨_, rfl⟩
    rw [← hr]
    obtain ⟨kl, hkl⟩ : ∃ kl, kl = ks.length := ⟨_, rfl⟩
    rw [← hkl] at hks hl3 hpl hkl24 ⊢
    have HKL := Lib.hid hkl
    obtain ⟨sp, hsp⟩ : ∃ sp, sp = sepX k := ⟨_, rfl⟩
    have hspl := sep_len k
    rw [← hsp] at hr hspl
    have HR := Lib.hid hr
    have HSP := Lib.hid hsp
    clear hkl hr hsp
    have hlen : kl ≤ 9223372036854775807 := by omega
    have B0 := (Below.refl w.heap.size w).alloc (Nat.le_refl _) (.cells #[.int .i64 k, .int .i64 0, strV [], .slice A3 kl cap3] 37)
    have K0 := KB.new w 37 #[.int .i64 k, .int .i64 0, strV [], .slice A3 kl cap3]
    have E1 : (k == 1) = false := beq_eq_false_iff_ne.2 h1
    unfold strV at *
    obtain ⟨s0e, hs0e⟩ : ∃ s : ByteArray, s = ⟨([] : List UInt8).toArray⟩ := ⟨_, rfl⟩
    rw [← hs0e] at K0 B0 ⊢
    clear hs0e
    obtain ⟨sr, hsr⟩ : ∃ s : ByteArray, s = ⟨r.toArray⟩ := ⟨_, rfl⟩
    rw [← hsr]
    have HSR := Lib.hid hsr
    clear hsr
    go_enter Tryd.func14, Tryd.ntmps14
    go_wp2_with fail
    clear E1
    go_loopw [3, 4] (fun sv iv wr => ∃ (j : Nat) (a : List UInt8), j ≤ kl ∧ a.length ≤ j * 1100 ∧ iv = .int .i64 j ∧ sv = .string ⟨a.toArray⟩ ∧ Hid (a = Lib.join (parts.take j) sp) ∧ KB wr w.heap.size 37 #[.int .i64 k, .int .i64 0, .string s0e, .slice A3 kl cap3] ∧ Below w.heap.size w wr) (fun _ iv _ => kl - (intOf iv).toNat)
    case atStart => exact ⟨0, [], by omega, by simp, rfl, rfl, by show _ = _; simp [Lib.join_nil], K0, B0⟩
    case round =>
      obtain ⟨j, a, hj, hal, rfl, rfl, HA, K, B⟩ := hrel
      have q3 : wr.cell? ⟨w.heap.size, 3, none⟩ = some (.slice A3 kl cap3) := K.cell 3
      by_cases hlt : j < kl
      · have hltI : (j : Int) < (kl : Int) := by omega
        have hjk : j < ks.length := by rw [← HKL.out]; exact hlt
        obtain ⟨b, o, e0, e1, e2, e3, rfl, hb, k0, k1, k2, k3, hv⟩ := kid_b hks HKL.out.symm B j hjk
        obtain ⟨hko, hkn, hkt⟩ := HKOK.out j hjk
        have hc := ih ks[j] (d - 1) _ (wr.alloc (.cells #[e0, e1, e2, e3] 37)) hko hkn (hv.alloc _)
        have HPJ : Hid (parts[j]? = some (brX k (opX f ks[j]) (exprX f ks[j]))) := HPART.out j hjk
        obtain ⟨_, _, _, _, e, hx4⟩ := hv
        injection e with e
        simp only [Array.mk.injEq, List.cons.injEq, and_true] at e
        obtain ⟨rfl, rfl, rfl, rfl⟩ := e
        obtain ⟨eo, _⟩ := hx4.op_cell
        obtain ⟨i0, i1, l2, X3, n3, z3, rfl, rfl, rfl, rfl⟩ := hx4.form
        injection eo with _ eo
        subst eo
        have hbr : b < wr.heap.size := Nat.lt_of_lt_of_le hb B.size
        have hgs : w.heap.size < wr.heap.size := K.lt
        have kk := KB.new wr 37 #[.int .i64 (opX f ks[j]), .int .i64 i1, strV l2, .slice X3 n3 z3]
        have kx2 := K.alloc (.cells #[.int .i64 (opX f ks[j]), .int .i64 i1, strV l2, .slice X3 n3 z3] 37)
        have B2 := B.alloc B.size (.cells #[.int .i64 (opX f ks[j]), .int .i64 i1, strV l2, .slice X3 n3 z3] 37)
        unfold strV at *
        generalize (⟨l2.toArray⟩ : ByteArray) = s2 at *
        clear hx4 hko hkn K
        generalize opX f ks[j] = ko at *
        generalize exprX f ks[j] = tx at *
        have hja : j * 1100 ≤ 26400 := by omega
        have ha1 := txt_add [40] tx (by simp; omega)
        have ha2 := txt_add (40 :: tx) [41] (by simp; omega)
        rw [show ([40] : List UInt8) ++ tx = 40 :: tx from rfl] at ha1
        rw [show (40 :: tx) ++ [41] = 40 :: (tx ++ [41]) from rfl] at ha2
        have hb1 := txt_add a sp (by omega)
        have HADD : Hid (∀ (m q : List UInt8), m.length ≤ 30000 → q.length ≤ 1002 → ∀ W : World, (Op.stringOp .add ⟨m.toArray⟩ ⟨q.toArray⟩).run Tryd.prog W = .ok (.string ⟨(m ++ q).toArray⟩) W) := fun m q h1 h2 => txt_add m q (by omega)
        have HNEXT : Hid (∀ q, q.length ≤ 1002 → parts[j]? = some q → (j = 0 → a ++ q = Lib.join (parts.take (j + 1)) sp) ∧ (0 < j → a ++ sp ++ q = Lib.join (parts.take (j + 1)) sp) ∧ (a ++ q).length ≤ (j + 1) * 1100 ∧ (a ++ sp ++ q).length ≤ (j + 1) * 1100 ∧ (a ++ sp).length ≤ 30000 ∧ a.length ≤ 30000) := fun q hq hp => by
          refine ⟨fun h => ?_, fun h => ?_, ?_, ?_, ?_, ?_⟩
          · subst h; rw [join_first sp hp, ← HA.out]
          · rw [join_next sp h hp, ← HA.out]
          · rw [List.length_append]; omega
          · rw [List.length_append, List.length_append]; omega
          · rw [List.length_append]; omega
          · omega
        obtain ⟨s5, hs5⟩ : ∃ s : ByteArray, s = ⟨tx.toArray⟩ := ⟨_, rfl⟩
        obtain ⟨sa, hsa⟩ : ∃ s : ByteArray, s = ⟨a.toArray⟩ := ⟨_, rfl⟩
        obtain ⟨sb, hsb⟩ : ∃ s : ByteArray, s = ⟨(a ++ sp).toArray⟩ := ⟨_, rfl⟩
        obtain ⟨s6, hs6⟩ : ∃ s : ByteArray, s = ⟨(40 :: tx).toArray⟩ := ⟨_, rfl⟩
        obtain ⟨s7, hs7⟩ : ∃ s : ByteArray, s = ⟨(40 :: (tx ++ [41])).toArray⟩ := ⟨_, rfl⟩
        have HS := Lib.hid hs5
        have HSA := Lib.hid hsa
        have HSB := Lib.hid hsb
        have HS7 := Lib.hid hs7
        rw [← hs6, ← hs5] at ha1
        rw [← hs6, ← hs7] at ha2
        rw [← hsa, ← hsb] at hb1
        rw [← hs5] at hc
        rw [← hsa]
        clear hs5 hs6 hs7 hsa hsb hjk
        go_wp2_with fail
        refine hc.mono ?_
        rintro e w5 ⟨rfl, b5⟩
        have kk5 := kk.below b5 kk.lt
        have kx5 := kx2.below b5 kx2.lt
        have B5 := B2.trans (b5.mono B2.size)
        have q0 := kk5.cell 0
        have p0 := kx5.cell 0
        clear hc kk kk5 kx2 B B2 b5 k0 k1 k2 k3 hks q3
        by_cases h2 : ko = 2
        · have D2 : (ko == 2) = true := beq_iff_eq.2 h2
          have hpj := HPJ.out
          rw [brr_yes tx (.inl h2)] at hpj
          have hql : (40 :: (tx ++ [41])).length ≤ 1002 := by simp; omega
          obtain ⟨n1, n2, n3, n4, n5, n6⟩ := HNEXT.out (40 :: (tx ++ [41])) hql hpj
          have N1 := Lib.hid n1
          have N2 := Lib.hid n2
          have N3 := Lib.hid n3
          have N4 := Lib.hid n4
          have hd0 := HADD.out a (40 :: (tx ++ [41])) n6 hql
          have hd1 := HADD.out (a ++ sp) (40 :: (tx ++ [41])) n5 hql
          rw [← HSA.out, ← HS7.out] at hd0
          rw [← HSB.out, ← HS7.out] at hd1
          obtain ⟨sd, hsd⟩ : ∃ s : ByteArray, s = ⟨(a ++ (40 :: (tx ++ [41]))).toArray⟩ := ⟨_, rfl⟩
          obtain ⟨se, hse⟩ : ∃ s : ByteArray, s = ⟨(a ++ sp ++ (40 :: (tx ++ [41]))).toArray⟩ := ⟨_, rfl⟩
          rw [← hsd] at hd0
          rw [← hse] at hd1
          have HSD := Lib.hid hsd
          have HSE := Lib.hid hse
          clear hpj hql n1 n2 n3 n4 n5 n6 HNEXT HADD HPJ HA hkt hal hja hsd hse h2
          by_cases hj0 : j = 0
          · have J0 : decide ((0 : Int) < (j : Int)) = false := decide_eq_false (by omega)
            have J1 : decide (0 < j) = false := decide_eq_false (by omega)
            have HN := Lib.hid (N1.out hj0)
            clear N1 N2 hd1 hb1 hj0
            go_wp2_with fail
            go_roundw
            case rel => exact ⟨j + 1, a ++ (40 :: (tx ++ [41])), by omega, N3.out, by go_num, by rw [HSD.out], HN, kx5, B5⟩
            case measure => simp [intOf]; omega
          have J0 : decide ((0 : Int) < (j : Int)) = true := decide_eq_true (by omega)
          have J1 : decide (0 < j) = true := decide_eq_true (by omega)
          have HN := Lib.hid (N2.out (by omega))
          clear N1 N2 hd0 hj0
          by_cases hk2 : k = 2
          · have K2 : (k == 2) = true := beq_iff_eq.2 hk2
            have e : sp = [32, 111, 114, 32] := by rw [HSP.out]; unfold sepX; rw [if_neg (by omega)]
            rw [e] at hb1
            clear e hk2
            go_wp2_with fail
            go_roundw
            case rel => exact ⟨j + 1, a ++ sp ++ (40 :: (tx ++ [41])), by omega, N4.out, by go_num, by rw [HSE.out], HN, kx5, B5⟩
            case measure => simp [intOf]; omega
          have K2 : (k == 2) = false := beq_eq_false_iff_ne.2 hk2
          have e : sp = [32, 97, 110, 100, 32] := by rw [HSP.out]; unfold sepX; rw [if_pos (by omega)]
          rw [e] at hb1
          clear e hk2
          go_wp2_with fail
          go_roundw
          case rel => exact ⟨j + 1, a ++ sp ++ (40 :: (tx ++ [41])), by omega, N4.out, by go_num, by rw [HSE.out], HN, kx5, B5⟩
          case measure => simp [intOf]; omega
        have D2 : (ko == 2) = false := beq_eq_false_iff_ne.2 h2
        by_cases h3 : ko = 3
        · have D3 : (ko == 3) = true := beq_iff_eq.2 h3
          by_cases h4 : k = 3
          · have D4 : (k == 3) = true := beq_iff_eq.2 h4
            have hpj := HPJ.out
            rw [brr_yes tx (.inr ⟨h3, h4⟩)] at hpj
            have hql : (40 :: (tx ++ [41])).length ≤ 1002 := by simp; omega
            obtain ⟨n1, n2, n3, n4, n5, n6⟩ := HNEXT.out (40 :: (tx ++ [41])) hql hpj
            have N1 := Lib.hid n1
            have N2 := Lib.hid n2
            have N3 := Lib.hid n3
            have N4 := Lib.hid n4
            have hd0 := HADD.out a (40 :: (tx ++ [41])) n6 hql
            have hd1 := HADD.out (a ++ sp) (40 :: (tx ++ [41])) n5 hql
            rw [← HSA.out, ← HS7.out] at hd0
            rw [← HSB.out, ← HS7.out] at hd1
            obtain ⟨sd, hsd⟩ : ∃ s : ByteArray, s = ⟨(a ++ (40 :: (tx ++ [41]))).toArray⟩ := ⟨_, rfl⟩
            obtain ⟨se, hse⟩ : ∃ s : ByteArray, s = ⟨(a ++ sp ++ (40 :: (tx ++ [41]))).toArray⟩ := ⟨_, rfl⟩
            rw [← hsd] at hd0
            rw [← hse] at hd1
            have HSD := Lib.hid hsd
            have HSE := Lib.hid hse
            have HE : Hid (sp = [32, 97, 110, 100, 32]) := by show _ = _; rw [HSP.out]; unfold sepX; rw [if_pos h4]
            have K2 : (k == 2) = false := by exact beq_eq_false_iff_ne.2 (by omega)
            clear hpj hql n1 n2 n3 n4 n5 n6 HNEXT HADD HPJ HA hkt hal hja hsd hse h2 h3 h4
            by_cases hj0 : j = 0
            · have J0 : decide ((0 : Int) < (j : Int)) = false := decide_eq_false (by omega)
              have J1 : decide (0 < j) = false := decide_eq_false (by omega)
              have HN := Lib.hid (N1.out hj0)
              clear N1 N2 hd1 hb1 hj0
              go_wp2_with fail
              go_roundw
              case rel => exact ⟨j + 1, a ++ (40 :: (tx ++ [41])), by omega, N3.out, by go_num, by rw [HSD.out], HN, kx5, B5⟩
              case measure => simp [intOf]; omega
            have J0 : decide ((0 : Int) < (j : Int)) = true := decide_eq_true (by omega)
            have J1 : decide (0 < j) = true := decide_eq_true (by omega)
            have HN := Lib.hid (N2.out (by omega))
            clear N1 N2 hd0 hj0
            rw [HE.out] at hb1
            go_wp2_with fail
            go_roundw
            case rel => exact ⟨j + 1, a ++ sp ++ (40 :: (tx ++ [41])), by omega, N4.out, by go_num, by rw [HSE.out], HN, kx5, B5⟩
            case measure => simp [intOf]; omega
          · have D4 : (k == 3) = false := beq_eq_false_iff_ne.2 h4
            have hpj := HPJ.out
            rw [brr_no tx h2 (fun _ => h4)] at hpj
            have hql : tx.length ≤ 1002 := by omega
            obtain ⟨n1, n2, n3, n4, n5, n6⟩ := HNEXT.out tx hql hpj
            have N1 := Lib.hid n1
            have N2 := Lib.hid n2
            have N3 := Lib.hid n3
            have N4 := Lib.hid n4
            have hd0 := HADD.out a tx n6 hql
            have hd1 := HADD.out (a ++ sp) tx n5 hql
            rw [← HSA.out, ← HS.out] at hd0
            rw [← HSB.out, ← HS.out] at hd1
            obtain ⟨sd, hsd⟩ : ∃ s : ByteArray, s = ⟨(a ++ tx).toArray⟩ := ⟨_, rfl⟩
            obtain ⟨se, hse⟩ : ∃ s : ByteArray, s = ⟨(a ++ sp ++ tx).toArray⟩ := ⟨_, rfl⟩
            rw [← hsd] at hd0
            rw [← hse] at hd1
            have HSD := Lib.hid hsd
            have HSE := Lib.hid hse
            have HE : Hid (sp = [32, 111, 114, 32]) := by show _ = _; rw [HSP.out]; unfold sepX; rw [if_neg h4]
            have K2 : (k == 2) = true := by exact beq_iff_eq.2 (by omega)
            clear hpj hql n1 n2 n3 n4 n5 n6 HNEXT HADD HPJ HA hkt hal hja hsd hse h2 h3 h4
            by_cases hj0 : j = 0
            · have J0 : decide ((0 : Int) < (j : Int)) = false := decide_eq_false (by omega)
              have J1 : decide (0 < j) = false := decide_eq_false (by omega)
              have HN := Lib.hid (N1.out hj0)
              clear N1 N2 hd1 hb1 hj0
              go_wp2_with fail
              go_roundw
              case rel => exact ⟨j + 1, a ++ tx, by omega, N3.out, by go_num, by rw [HSD.out], HN, kx5, B5⟩
              case measure => simp [intOf]; omega
            have J0 : decide ((0 : Int) < (j : Int)) = true := decide_eq_true (by omega)
            have J1 : decide (0 < j) = true := decide_eq_true (by omega)
            have HN := Lib.hid (N2.out (by omega))
            clear N1 N2 hd0 hj0
            rw [HE.out] at hb1
            go_wp2_with fail
            go_roundw
            case rel => exact ⟨j + 1, a ++ sp ++ tx, by omega, N4.out, by go_num, by rw [HSE.out], HN, kx5, B5⟩
            case measure => simp [intOf]; omega
        have D3 : (ko == 3) = false := beq_eq_false_iff_ne.2 h3
        have hpj := HPJ.out
        rw [brr_no tx h2 (fun h => absurd h h3)] at hpj
        have hql : tx.length ≤ 1002 := by omega
        obtain ⟨n1, n2, n3, n4, n5, n6⟩ := HNEXT.out tx hql hpj
        have N1 := Lib.hid n1
        have N2 := Lib.hid n2
        have N3 := Lib.hid n3
        have N4 := Lib.hid n4
        have hd0 := HADD.out a tx n6 hql
        have hd1 := HADD.out (a ++ sp) tx n5 hql
        rw [← HSA.out, ← HS.out] at hd0
        rw [← HSB.out, ← HS.out] at hd1
        obtain ⟨sd, hsd⟩ : ∃ s : ByteArray, s = ⟨(a ++ tx).toArray⟩ := ⟨_, rfl⟩
        obtain ⟨se, hse⟩ : ∃ s : ByteArray, s = ⟨(a ++ sp ++ tx).toArray⟩ := ⟨_, rfl⟩
        rw [← hsd] at hd0
        rw [← hse] at hd1
        have HSD := Lib.hid hsd
        have HSE := Lib.hid hse
        clear hpj hql n1 n2 n3 n4 n5 n6 HNEXT HADD HPJ HA hkt hal hja hsd hse h2 h3
        by_cases hj0 : j = 0
        · have J0 : decide ((0 : Int) < (j : Int)) = false := decide_eq_false (by omega)
          have J1 : decide (0 < j) = false := decide_eq_false (by omega)
          have HN := Lib.hid (N1.out hj0)
          clear N1 N2 hd1 hb1 hj0
          go_wp2_with fail
          go_roundw
          case rel => exact ⟨j + 1, a ++ tx, by omega, N3.out, by go_num, by rw [HSD.out], HN, kx5, B5⟩
          case measure => simp [intOf]; omega
        have J0 : decide ((0 : Int) < (j : Int)) = true := decide_eq_true (by omega)
        have J1 : decide (0 < j) = true := decide_eq_true (by omega)
        have HN := Lib.hid (N2.out (by omega))
        clear N1 N2 hd0 hj0
        by_cases hk2 : k = 2
        · have K2 : (k == 2) = true := beq_iff_eq.2 hk2
          have e : sp = [32, 111, 114, 32] := by rw [HSP.out]; unfold sepX; rw [if_neg (by omega)]
          rw [e] at hb1
          clear e hk2
          go_wp2_with fail
          go_roundw
          case rel => exact ⟨j + 1, a ++ sp ++ tx, by omega, N4.out, by go_num, by rw [HSE.out], HN, kx5, B5⟩
          case measure => simp [intOf]; omega
        have K2 : (k == 2) = false := beq_eq_false_iff_ne.2 hk2
        have e : sp = [32, 97, 110, 100, 32] := by rw [HSP.out]; unfold sepX; rw [if_pos (by omega)]
        rw [e] at hb1
        clear e hk2
        go_wp2_with fail
        go_roundw
        case rel => exact ⟨j + 1, a ++ sp ++ tx, by omega, N4.out, by go_num, by rw [HSE.out], HN, kx5, B5⟩
        case measure => simp [intOf]; omega
      · obtain rfl : j = kl := by omega
        have ha := HA.out
        rw [← hpl, List.take_length, ← HR.out] at ha
        have e : (⟨a.toArray⟩ : ByteArray) = sr := by rw [HSR.out, ha]
        rw [e]
        clear HPART HKOK HSP HR HA hks e ha hal
        go_wp2_with fail
        go_ret
        exact ⟨rfl, B⟩
end
section
open Go.RowKit
theorem rline_len {f : Nat} {r : Rl f} (h : goodR f r = true) : (ofS r.cls).length ≤ 24 ∧ r.cls.length ≤ 16 ∧ (exprX f r.when_).length ≤ 960 ∧ (actS r.act).length ≤ 7 ∧ okX f r.when_ 8 = true ∧ nodesX f r.when_ ≤ 24 := by
  unfold goodR at h
  simp only [Bool.and_eq_true, Bool.or_eq_true, decide_eq_true_eq] at h
  obtain ⟨⟨hact, hcls⟩, hmay⟩ := h
  have hcl : r.cls.length ≤ 16 := by
    rcases hcls with h | h
    · rw [h]; simp
    · exact ((name_iff _).1 h).2.1
  unfold mayX at hmay
  simp only [Bool.and_eq_true, decide_eq_true_eq] at hmay
  have hel := expr_len f r.when_ 8 hmay.1
  have hal : (actS r.act).length ≤ 7 := by unfold actS; split <;> (try split) <;> simp
  have hol : (ofS r.cls).length ≤ 24 := by unfold ofS; split <;> simp; omega
  exact ⟨hol, hcl, by omega, hal, hmay.1, hmay.2⟩
theorem rlines_step {f : Nat} {l : List (Rl f)} {j : Nat} (hj : j < l.length) : (l.take (j + 1)).flatMap (lineR f) = (l.take j).flatMap (lineR f) ++ lineR f l[j] := by
  rw [List.take_add_one, List.getElem?_eq_getElem hj, List.flatMap_append]
  simp
theorem rprint_bad {f : Nat} {l : List (Rl f)} (h : checkR f l ≠ 0) : printR f l = ([], checkR f l) := by unfold printR; rw [if_neg h]
theorem rprint_long {f : Nat} {l : List (Rl f)} (h : checkR f l = 0) (h2 : 600 < (l.flatMap (lineR f)).length) : printR f l = ([], 3) := by unfold printR; rw [if_pos h, if_pos h2]
theorem rprint_ok {f : Nat} {l : List (Rl f)} (h : checkR f l = 0) (h2 : ¬ 600 < (l.flatMap (lineR f)).length) : printR f l = (l.flatMap (lineR f), 0) := by unfold printR; rw [if_pos h, if_neg h2]
set_option maxHeartbeats 8000000 in
theorem rprint_any (S : Nat → Prop) (f : Nat) (l : List (Rl f)) (v : Value) (w : World) (hv : RS w S f v l) :
    Calls Tryd.prog 7 #[v] w fun e w' => e = .returned (.tuple #[strV (printR f l).1, .int .i64 (printR f l).2]) ∧ Below w.heap.size w w' := by
  have hck := rcheck_any S f l v w hv
  obtain ⟨A3, cap3, rfl, hl3, hm3⟩ := hv.form
  by_cases hz : checkR f l = 0
  case neg =>
    rw [rprint_bad hz]
    dsimp only
    generalize checkR f l = r at *
    have E : (r != 0) = true := bne_iff_ne.2 hz
    clear hv hz
    go_enter Tryd.func7, Tryd.ntmps7
    go_wp2_with fail
    refine hck.mono ?_
    rintro e w1 ⟨rfl, b1⟩
    clear hck
    go_wp2_with fail
    go_ret2
    exact ⟨rfl, b1⟩
  obtain ⟨h12, hgood, _⟩ := check_zero hz
  rw [hz] at hck
  obtain ⟨TX, hTX⟩ : ∃ TX, TX = l.flatMap (lineR f) := ⟨_, rfl⟩
  obtain ⟨R, hR⟩ : ∃ R, R = printR f l := ⟨_, rfl⟩
  rw [← hR]
  have HLONG : Hid (600 < TX.length → R = ([], 3)) := fun h => hR.trans (rprint_long hz (by rw [← hTX]; exact h))
  have HSHORT : Hid (¬ 600 < TX.length → R = (TX, 0)) := fun h => by rw [hR, rprint_ok hz (by rw [← hTX]; exact h), ← hTX]
  have HLAST : Hid ((l.take l.length).flatMap (lineR f) = TX) := by show _ = _; rw [List.take_length, hTX]
  have HRB : Hid (∀ (wr : World), Below w.heap.size w wr → ∀ (j : Nat) (hj : j < l.length), ∃ b o e1 e2 e3 e4, A3 = some ⟨b, o, none⟩ ∧ b < w.heap.size ∧ wr.cell? ⟨b, o + j * 6, none⟩ = some (strV l[j].cls) ∧ wr.cell? ⟨b, o + j * 6 + 1, none⟩ = some e1 ∧ wr.cell? ⟨b, o + j * 6 + 2, none⟩ = some e2 ∧ wr.cell? ⟨b, o + j * 6 + 3, none⟩ = some e3 ∧
      wr.cell? ⟨b, o + j * 6 + 4, none⟩ = some e4 ∧ wr.cell? ⟨b, o + j * 6 + 5, none⟩ = some (.int .i64 l[j].act) ∧ EV wr S f (.agg #[e1, e2, e3, e4]) l[j].when_ ∧ l[j].cls.length ≤ maxLen ∧ I64 l[j].act) := fun wr hb j hj => rule_b hv rfl hb j hj
  have HGD : Hid (∀ (j : Nat) (hj : j < l.length), goodR f l[j] = true) := fun j hj => List.all_eq_true.1 hgood _ (List.getElem_mem hj)
  have hll : l.length ≤ 12 := by omega
  clear hv hR hTX hgood hz
  go_enter Tryd.func7, Tryd.ntmps7
  go_wp2_with fail
  refine hck.mono ?_
  rintro e w1 ⟨rfl, b1⟩
  clear hck
  go_wp2_with fail
  go_loopw [5, 6] (fun sv iv wr => ∃ (j : Nat) (a : List UInt8), j ≤ l.length ∧ iv = .int .i64 j ∧ sv = .string ⟨a.toArray⟩ ∧ a.length ≤ j * 1100 ∧ Hid (a = (l.take j).flatMap (lineR f)) ∧ Below w.heap.size w wr) (fun _ iv _ => l.length - (intOf iv).toNat)
  case atStart => exact ⟨0, [], by omega, rfl, rfl, by simp, by show _ = _; simp, b1⟩
  case round =>
    clear b1
    obtain ⟨j, a, hj, rfl, rfl, hal, HA, B⟩ := hrel
    by_cases hlt : j < l.length
    · have hltI : (j : Int) < (l.length : Int) := by omega
      obtain ⟨b, o, e1, e2, e3, e4, rfl, hb, k0, k1, k2, k3, k4, k5, hx, hcm, hai⟩ := HRB.out wr B j hlt
      obtain ⟨hol, hcl, hel, hac, hok, hno⟩ := rline_len (HGD.out j hlt)
      have Bd : Below w.heap.size w wr.drew := Below_drawn B 1
      have Bdd : Below wr.heap.size wr wr.drew := Below_drawn (Below.refl _ _) 1
      have hex := rexpr_any S f l[j].when_ 8 _ wr.drew hok hno (hx.below' Bdd)
      have hav := ract_any l[j].act
      have HNX : Hid (a ++ lineR f l[j] = (l.take (j + 1)).flatMap (lineR f)) := by show _ = _; rw [rlines_step hlt, HA.out]
      obtain ⟨_, _, _, _, e, hx4⟩ := hx
      injection e with e
      simp only [Array.mk.injEq, List.cons.injEq, and_true] at e
      obtain ⟨rfl, rfl, rfl, rfl⟩ := e
      obtain ⟨i0, i1, l2, X3, n3, z3, rfl, rfl, rfl, rfl⟩ := hx4.form
      have hja : j * 1100 ≤ 13200 := by omega
      have e5 : a ++ ofS l[j].cls ++ keepW ++ exprX f l[j].when_ ++ thenW ++ actS l[j].act ++ [59, 10] = a ++ lineR f l[j] := by unfold lineR; simp [List.append_assoc]
      have hlen5 : (a ++ ofS l[j].cls ++ keepW ++ exprX f l[j].when_ ++ thenW ++ actS l[j].act ++ [59, 10]).length ≤ (j + 1) * 1100 := by
        unfold keepW thenW
        simp only [List.length_append, List.length_cons, List.length_nil]
        omega
      have hk6 : keepW.length = 6 := rfl
      have ht6 : thenW.length = 6 := rfl
      have hd2 : ([59, 10] : List UInt8).length = 2 := rfl
      have f1 := txt_add (a ++ ofS l[j].cls) keepW (by rw [List.length_append]; omega)
      have f2 := txt_add (a ++ ofS l[j].cls ++ keepW) (exprX f l[j].when_) (by simp only [List.length_append]; omega)
      have f3 := txt_add (a ++ ofS l[j].cls ++ keepW ++ exprX f l[j].when_) thenW (by simp only [List.length_append]; omega)
      have f4 := txt_add (a ++ ofS l[j].cls ++ keepW ++ exprX f l[j].when_ ++ thenW) (actS l[j].act) (by simp only [List.length_append]; omega)
      have f5 := txt_add (a ++ ofS l[j].cls ++ keepW ++ exprX f l[j].when_ ++ thenW ++ actS l[j].act) [59, 10] (by simp only [List.length_append]; omega)
      have g1 : l[j].cls = [] → ∀ W : World, (Op.stringOp .add ⟨a.toArray⟩ ⟨#[100, 101, 102, 97, 117, 108, 116]⟩).run Tryd.prog W = .ok (.string ⟨(a ++ ofS l[j].cls).toArray⟩) W := fun h => by
        have e : ofS l[j].cls = [100, 101, 102, 97, 117, 108, 116] := by unfold ofS; rw [if_pos h]
        rw [e]
        exact txt_add a [100, 101, 102, 97, 117, 108, 116] (by simp; omega)
      have g2 := txt_add a [99, 108, 97, 115, 115, 32, 34] (by simp; omega)
      have g3 := txt_add (a ++ [99, 108, 97, 115, 115, 32, 34]) l[j].cls (by simp; omega)
      have g4 := txt_add (a ++ [99, 108, 97, 115, 115, 32, 34] ++ l[j].cls) [34] (by simp; omega)
      have g5 : l[j].cls ≠ [] → a ++ [99, 108, 97, 115, 115, 32, 34] ++ l[j].cls ++ [34] = a ++ ofS l[j].cls := fun h => by unfold ofS; rw [if_neg h]; simp
      have HCE := Lib.hid (ne_not ⟨l[j].cls.toArray⟩ l[j].cls [] rfl)
      have HCN := Lib.hid (ne_if ⟨l[j].cls.toArray⟩ l[j].cls [] rfl)
      have HEM : Hid (l[j].cls = [] ∨ ¬ l[j].cls = []) := Classical.em _
      have HL5 := Lib.hid hlen5
      have HE5 := Lib.hid e5
      have HG1 := Lib.hid g1
      have HG5 := Lib.hid g5
      have HC : Hid (∀ W, Below wr.heap.size wr W → W.cell? ⟨b, o + j * 6 + 1, none⟩ = some (.int .i64 i0) ∧ W.cell? ⟨b, o + j * 6 + 2, none⟩ = some (.int .i64 i1) ∧ W.cell? ⟨b, o + j * 6 + 3, none⟩ = some (strV l2) ∧ W.cell? ⟨b, o + j * 6 + 4, none⟩ = some (.slice X3 n3 z3) ∧ W.cell? ⟨b, o + j * 6 + 5, none⟩ = some (.int .i64 l[j].act)) := fun W hb5 => by
        have far : ∀ (g : Nat) (i : Nat) (u : Value), g < w.heap.size → wr.cell? ⟨g, i, none⟩ = some u → W.cell? ⟨g, i, none⟩ = some u := fun g i u hg hu =>
          (World.cell?_of_block (w := wr) (hb5.block g (Nat.lt_of_lt_of_le hg B.size))).trans hu
        exact ⟨far _ _ _ hb k1, far _ _ _ hb k2, far _ _ _ hb k3, far _ _ _ hb k4, far _ _ _ hb k5⟩
      clear hx4 hok hno hol hcl hel hac hlen5 e5 g1 g5 hja hk6 ht6 hd2 hal HA hcm hai
      generalize lineR f l[j] = ln at *
      generalize a ++ ofS l[j].cls ++ keepW ++ exprX f l[j].when_ ++ thenW ++ actS l[j].act ++ [59, 10] = x5 at *
      generalize a ++ ofS l[j].cls ++ keepW ++ exprX f l[j].when_ ++ thenW ++ actS l[j].act = x4 at *
      generalize a ++ ofS l[j].cls ++ keepW ++ exprX f l[j].when_ ++ thenW = x3 at *
      generalize a ++ ofS l[j].cls ++ keepW ++ exprX f l[j].when_ = x2 at *
      generalize a ++ ofS l[j].cls ++ keepW = x1 at *
      generalize a ++ ofS l[j].cls = x0 at *
      generalize a ++ [99, 108, 97, 115, 115, 32, 34] ++ l[j].cls ++ [34] = y3 at *
      generalize a ++ [99, 108, 97, 115, 115, 32, 34] ++ l[j].cls = y2 at *
      generalize a ++ [99, 108, 97, 115, 115, 32, 34] = y1 at *
      generalize exprX f l[j].when_ = ex at *
      generalize actS l[j].act = aw at *
      generalize l[j].act = ac at *
      unfold keepW at f1
      unfold thenW at f3
      unfold strV at *
      generalize (⟨l2.toArray⟩ : ByteArray) = s2 at *
      obtain ⟨s5, hs5⟩ : ∃ s : ByteArray, s = ⟨x5.toArray⟩ := ⟨_, rfl⟩
      have HS5 := Lib.hid hs5
      rw [← hs5] at f5
      obtain ⟨s0, hs0⟩ : ∃ s : ByteArray, s = ⟨x0.toArray⟩ := ⟨_, rfl⟩
      rw [← hs0] at f1 HG1
      obtain ⟨sy3, hsy3⟩ : ∃ s : ByteArray, s = ⟨y3.toArray⟩ := ⟨_, rfl⟩
      rw [← hsy3] at g4
      have HY3 : Hid (¬ l[j].cls = [] → sy3 = s0) := fun h => by rw [hsy3, hs0, HG5.out h]
      clear hs5 hs0 hsy3 HG5
      generalize (⟨x1.toArray⟩ : ByteArray) = s1 at *
      generalize (⟨x2.toArray⟩ : ByteArray) = sx2 at *
      generalize (⟨x3.toArray⟩ : ByteArray) = s3 at *
      generalize (⟨x4.toArray⟩ : ByteArray) = s4 at *
      generalize (⟨y1.toArray⟩ : ByteArray) = sy1 at *
      generalize (⟨y2.toArray⟩ : ByteArray) = sy2 at *
      generalize (⟨ex.toArray⟩ : ByteArray) = sex at *
      generalize (⟨aw.toArray⟩ : ByteArray) = saw at *
      generalize (⟨l[j].cls.toArray⟩ : ByteArray) = sc at *
      generalize (⟨a.toArray⟩ : ByteArray) = sa at *
      rcases HEM.out with hc | hc
      · have hce := (HCE.out hc).2.2
        obtain ⟨ec1, ec2, ec3⟩ := void_yes hce
        have g1 := HG1.out hc
        clear HCE HCN HEM HG1 HY3 g2 g3 g4 hc
        go_wp2_with fail
        rename_i KK hKK
        have HKK := Lib.hid hKK
        clear hKK k0 k1 k2 k3 k4 k5 hce ec1 ec2 ec3
        refine wp_region_held_drew (S := (fun W => W.cell? ⟨b, o + j * 6 + 1, none⟩ = some (.int .i64 i0) ∧ W.cell? ⟨b, o + j * 6 + 2, none⟩ = some (.int .i64 i1) ∧ W.cell? ⟨b, o + j * 6 + 3, none⟩ = some (.string s2) ∧ W.cell? ⟨b, o + j * 6 + 4, none⟩ = some (.slice X3 n3 z3) ∧ W.cell? ⟨b, o + j * 6 + 5, none⟩ = some (.int .i64 ac))) (by kernel_rfl) (HC.out _ Bdd) (fun hHeld => ?_)
        refine hyY (some 35) 0 rfl hHeld ?_; go_frame
        refine hyY (some 36) 1 rfl hHeld ?_; go_frame
        refine hyY (some 37) 2 rfl hHeld ?_; go_frame
        refine hyY (some 38) 3 rfl hHeld ?_; go_frame
        refine hyY (some 39) 4 rfl hHeld ?_; go_frame
        refine hyY (some 40) 5 rfl hHeld ?_; go_frame
        refine hyY (some 41) 6 rfl hHeld ?_; go_frame
        refine hyY (some 45) 10 rfl hHeld ?_; go_frame
        refine hyY (some 46) 11 rfl hHeld ?_; go_frame
        refine hyY (some 47) 12 rfl hHeld ?_; go_frame
        refine hyY (some 48) 13 rfl hHeld ?_; go_frame
        refine hyY (some 49) 14 rfl hHeld ?_; go_frame
        refine hyO (some 42) 7 rfl (fun K hK => ?_)
        go_simp
        go_at_call 14
        refine hex.mono ?_
        rintro e w5 ⟨rfl, b5⟩
        go_wp2_with fail
        refine hK.out _ _ ?_ (fun hH2 => ?_)
        · exact HC.out _ (Bdd.trans b5)
        clear hHeld hK K; have hHeld := hH2; clear hH2; try go_frame
        refine hyY (some 43) 8 rfl hHeld ?_; go_frame
        refine hyY (some 44) 9 rfl hHeld ?_; go_frame
        refine hyO (some 50) 15 rfl (fun K hK => ?_)
        go_simp
        go_at_call 15
        refine (hav _).mono ?_
        rintro e w' ⟨rfl, rfl⟩
        go_wp2_with fail
        refine hK.out _ _ ?_ (fun hH2 => ?_)
        · exact HC.out _ (Bdd.trans b5)
        clear hHeld hK K; have hHeld := hH2; clear hH2; try go_frame
        refine hyY (some 51) 16 rfl hHeld ?_; go_frame
        refine hyY (some 52) 17 rfl hHeld ?_; go_frame
        refine hyY (some 5) 18 rfl hHeld ?_; go_frame
        refine wpAnyH_done (by kernel_rfl) ?_ _
        have hKK := HKK.out
        have B5 := Bd.trans (b5.mono Bd.size)
        go_wp2_with fail
        go_roundw
        case rel => exact ⟨j + 1, x5, by omega, by go_num, by rw [HS5.out], HL5.out, HE5.out.trans HNX.out, B5⟩
        case measure =>
          simp [intOf]
          omega
      · have hce := (HCN.out hc).2.2
        obtain ⟨ec1, ec2, ec3⟩ := void_no hce
        have hy3 := HY3.out hc
        rw [hy3] at g4
        clear HCE HCN HEM HG1 HY3 hc hy3
        go_wp2_with fail
        rename_i KK hKK
        have HKK := Lib.hid hKK
        clear hKK k0 k1 k2 k3 k4 k5 hce ec1 ec2 ec3 g2 g3 g4
        refine wp_region_held_drew (S := (fun W => W.cell? ⟨b, o + j * 6 + 1, none⟩ = some (.int .i64 i0) ∧ W.cell? ⟨b, o + j * 6 + 2, none⟩ = some (.int .i64 i1) ∧ W.cell? ⟨b, o + j * 6 + 3, none⟩ = some (.string s2) ∧ W.cell? ⟨b, o + j * 6 + 4, none⟩ = some (.slice X3 n3 z3) ∧ W.cell? ⟨b, o + j * 6 + 5, none⟩ = some (.int .i64 ac))) (by kernel_rfl) (HC.out _ Bdd) (fun hHeld => ?_)
        refine hyY (some 35) 0 rfl hHeld ?_; go_frame
        refine hyY (some 36) 1 rfl hHeld ?_; go_frame
        refine hyY (some 37) 2 rfl hHeld ?_; go_frame
        refine hyY (some 38) 3 rfl hHeld ?_; go_frame
        refine hyY (some 39) 4 rfl hHeld ?_; go_frame
        refine hyY (some 40) 5 rfl hHeld ?_; go_frame
        refine hyY (some 41) 6 rfl hHeld ?_; go_frame
        refine hyY (some 45) 10 rfl hHeld ?_; go_frame
        refine hyY (some 46) 11 rfl hHeld ?_; go_frame
        refine hyY (some 47) 12 rfl hHeld ?_; go_frame
        refine hyY (some 48) 13 rfl hHeld ?_; go_frame
        refine hyY (some 49) 14 rfl hHeld ?_; go_frame
        refine hyO (some 42) 7 rfl (fun K hK => ?_)
        go_simp
        go_at_call 14
        refine hex.mono ?_
        rintro e w5 ⟨rfl, b5⟩
        go_wp2_with fail
        refine hK.out _ _ ?_ (fun hH2 => ?_)
        · exact HC.out _ (Bdd.trans b5)
        clear hHeld hK K; have hHeld := hH2; clear hH2; try go_frame
        refine hyY (some 43) 8 rfl hHeld ?_; go_frame
        refine hyY (some 44) 9 rfl hHeld ?_; go_frame
        refine hyO (some 50) 15 rfl (fun K hK => ?_)
        go_simp
        go_at_call 15
        refine (hav _).mono ?_
        rintro e w' ⟨rfl, rfl⟩
        go_wp2_with fail
        refine hK.out _ _ ?_ (fun hH2 => ?_)
        · exact HC.out _ (Bdd.trans b5)
        clear hHeld hK K; have hHeld := hH2; clear hH2; try go_frame
        refine hyY (some 51) 16 rfl hHeld ?_; go_frame
        refine hyY (some 52) 17 rfl hHeld ?_; go_frame
        refine hyY (some 5) 18 rfl hHeld ?_; go_frame
        refine wpAnyH_done (by kernel_rfl) ?_ _
        have hKK := HKK.out
        have B5 := Bd.trans (b5.mono Bd.size)
        go_wp2_with fail
        go_roundw
        case rel => exact ⟨j + 1, x5, by omega, by go_num, by rw [HS5.out], HL5.out, HE5.out.trans HNX.out, B5⟩
        case measure =>
          simp [intOf]
          omega
    · have ha := HA.out
      rw [show j = l.length by omega, HLAST.out] at ha
      subst ha
      have hsz : ((⟨a.toArray⟩ : ByteArray).size : Int) = (a.length : Int) := rfl
      unfold strV at *
      by_cases hlo : 600 < a.length
      · have E : decide ((600 : Int) < (a.length : Int)) = true := decide_eq_true (by omega)
        have E' : decide (600 < a.length) = true := decide_eq_true hlo
        have hr := HLONG.out hlo
        subst hr
        clear HLONG HSHORT HLAST HGD HRB HA hal hlo
        generalize a.length = al at *
        generalize (⟨a.toArray⟩ : ByteArray) = sa at *
        go_wp2_with fail
        go_ret2
        exact ⟨rfl, B⟩
      · have E : decide ((600 : Int) < (a.length : Int)) = false := decide_eq_false (by omega)
        have E' : decide (600 < a.length) = false := decide_eq_false hlo
        have hr := HSHORT.out hlo
        subst hr
        have hal2 : a.length ≤ 600 := by omega
        clear HLONG HSHORT HLAST HGD HRB HA hal hlo
        go_wp2_with fail
        go_ret2
        exact ⟨rfl, B⟩
end
section
open Go.RowKit Go.ChangeShapes Go.WideShapes Go.Joins
def liftR (f : Nat) (r : Rl f) : Rl (f + 1) := ⟨r.cls, liftX f r.when_, r.act⟩
theorem lift_same {f g : Nat} : ∀ (zs : List (Rl f)) (l : List (Rl g)), sameXL (sameR f g) zs l = true → sameXL (sameR (f + 1) g) (zs.map (liftR f)) l = true
  | [], [], _ => rfl
  | [], _ :: _, h => by cases h
  | _ :: _, [], h => by cases h
  | a :: zs, b :: l, h => by
    show (sameR (f + 1) g (liftR f a) b && sameXL (sameR (f + 1) g) (zs.map (liftR f)) l) = true
    have h' : (sameR f g a b && sameXL (sameR f g) zs l) = true := h
    rw [Bool.and_eq_true] at h' ⊢
    refine ⟨?_, lift_same zs l h'.2⟩
    have h1 := h'.1
    unfold sameR at h1 ⊢
    rw [Bool.and_eq_true] at h1 ⊢
    exact ⟨h1.1, sameX_trans _ _ _ _ _ _ (sameX_lift f a.when_) h1.2⟩
theorem lift_rules (ys : List (Rl 17)) : ∀ k : Nat, ∃ zs : List (Rl (17 + k)), (∀ w S v, RS w S 17 v ys → RS w S (17 + k) v zs) ∧ ∀ (g : Nat) (l : List (Rl g)), sameXL (sameR 17 g) ys l = true → sameXL (sameR (17 + k) g) zs l = true
  | 0 => ⟨ys, fun _ _ _ h => h, fun _ _ h => h⟩
  | k + 1 => by
    obtain ⟨zs, h1, h2⟩ := lift_rules ys k
    exact ⟨zs.map (liftR (17 + k)), fun w S v h => (h1 w S v h).lifted, fun g l h => lift_same zs l (h2 g l h)⟩
set_option maxHeartbeats 8000000 in
theorem parse_backs (S : Nat → Prop) (k : Nat) (l : List (Rl (17 + k))) (v : Value) (w : World) (hv : RS w S (17 + k) v l) :
    Calls Tryd.prog 3 #[v] w fun e w' => e = .returned (.bool true) ∧ Below w.heap.size w w' := by
  have hn := num18_any
  have HL : Hid (∀ W, Calls Tryd.prog 6 #[] W fun e w' => e = .returned (.bool true) ∧ Below W.heap.size W w') := live18_any
  have HM : Hid (∀ W, Below w.heap.size w W → Calls Tryd.prog 5 #[v] W (SmallAs (17 + k) l W)) := fun W hb => rsmall_any S (17 + k) l v W (hv.below' hb)
  have HP : Hid (∀ W, Below w.heap.size w W → Calls Tryd.prog 7 #[v] W fun e w' => e = .returned (.tuple #[strV (printR (17 + k) l).1, .int .i64 (printR (17 + k) l).2]) ∧ Below W.heap.size W w') := fun W hb =>
    rprint_any S (17 + k) l v W (hv.below' hb)
  have HV := Lib.hid hv
  obtain ⟨A0, c0, rfl, _⟩ := hv.form
  unfold SmallAs at HM
  obtain ⟨z, hz⟩ : ∃ z : ByteArray, z = ⟨(printR (17 + k) l).1.toArray⟩ := ⟨_, rfl⟩
  have hzs : (z.size : Int) = ((printR (17 + k) l).1.length : Int) := by rw [hz]; rfl
  have hzv : strV (printR (17 + k) l).1 = .string z := by unfold strV; rw [hz]
  rw [hzv] at HP
  have HB : Hid ((printR (17 + k) l).2 = 0 → ∃ ys, (∀ W, Calls Tryd.prog 8 #[.string z, .int .i64 1000] W fun e w' => ∃ x, e = .returned (.tuple #[x, .int .i64 ((printR (17 + k) l).1.length : Int), .int .i64 0]) ∧ RS w' (fun b => b < w'.heap.size) (17 + k) x ys ∧ Below W.heap.size W w') ∧
      sameXL (sameR (17 + k) (17 + k)) ys l = true) := fun h => by
    obtain ⟨ys, u, h1, h2⟩ := parse_back h 1000 (by omega)
    obtain ⟨zs, h3, h4⟩ := lift_rules ys k
    refine ⟨zs, fun W => ?_, h4 _ l h2⟩
    have hlen : (printR (17 + k) l).1.length ≤ maxLen := by
      unfold printR
      split
      · split
        · simp
        · rename_i hh; show (l.flatMap (lineR (17 + k))).length ≤ maxLen; unfold maxLen; omega
      · simp
    have hr := rules18_any (printR (17 + k) l).1 hlen 1000 (by unfold I64; omega) W
    unfold RulesAs at hr
    rw [h1, hzv] at hr
    refine hr.mono ?_
    rintro e w' ⟨x, e1, e2, e3⟩
    exact ⟨x, e1, h3 _ _ _ e2, e3⟩
  generalize (printR (17 + k) l).2 = e0 at *
  generalize ((printR (17 + k) l).1.length : Int) = nl at *
  clear hv hz hzv
  have B := Below.refl w.heap.size w
  go_enter Tryd.func3, Tryd.ntmps3
  go_wp2_with fail
  refine (HM.out _ B).mono ?_
  rintro e w1 ⟨b, rfl, _, b1⟩
  replace B := B.trans (b1.mono B.size)
  clear b1 HM
  cases b with
  | false =>
    go_wp2_with (go_at_call 6; refine (HL.out _).mono ?_; rintro e w1 ⟨rfl, b1⟩; replace B := B.trans (b1.mono B.size); clear b1)
    go_ret
    exact ⟨rfl, B⟩
  | true =>
    by_cases h1 : e0 = 0
    case neg =>
      have E : (e0 != 0) = true := bne_iff_ne.2 h1
      have E2 : (e0 == 0) = false := beq_eq_false_iff_ne.2 h1
      clear HB h1
      go_wp2_with (first
        | (go_at_call 7; refine (HP.out _ B).mono ?_; rintro e w1 ⟨rfl, b1⟩; replace B := B.trans (b1.mono B.size); clear b1)
        | (go_at_call 6; refine (HL.out _).mono ?_; rintro e w1 ⟨rfl, b1⟩; replace B := B.trans (b1.mono B.size); clear b1))
      go_ret
      exact ⟨rfl, B⟩
    subst h1
    obtain ⟨ys, HR, hsame⟩ := HB.out rfl
    have HR := Lib.hid HR
    have HSM := Lib.hid hsame
    clear HB hsame
    go_wp2_with fail
    refine (HP.out _ B).mono ?_
    rintro e w2 ⟨rfl, b2⟩
    replace B := B.trans (b2.mono B.size)
    clear b2 HP
    go_wp2_with fail
    refine (HR.out _).mono ?_
    rintro e w3 ⟨x, rfl, hx, b3⟩
    have B3 := B.trans (b3.mono B.size)
    have hs := rsame_any _ _ (17 + k) ys l x _ w3 hx (HV.out.below' B3)
    rw [HSM.out] at hs
    obtain ⟨A1, c1, rfl, _⟩ := hx.form
    clear b3 HR B hx HV
    have B := B3
    clear B3
    go_wp2_with (first
      | (go_at_call 9; refine (hn _ _).mono ?_; rintro e w4 ⟨rfl, rfl⟩)
      | (go_at_call 10; refine hs.mono ?_; rintro e w1 ⟨rfl, b1⟩; replace B := B.trans (b1.mono B.size); clear b1)
      | (go_at_call 6; refine (HL.out _).mono ?_; rintro e w1 ⟨rfl, b1⟩; replace B := B.trans (b1.mono B.size); clear b1))
    go_ret
    exact ⟨rfl, B⟩
theorem parseBack_law {H : Type} (enc : TypeId × Value → H) (W : World) (base : Nat)
    (v0 : Value) (d0 : DataW H) (p0 : List MemPlace) (k0 : Value.okWide Tryd.prog W .any base 22 v0)
    (h0 : DataW.Trod enc Tryd.prog W 0 (fun _ => true) true 22 v0 d0 p0) :
    Calls Tryd.prog 3 #[v0] W fun e W' => e = .returned (.bool true) ∧ Below W.heap.size W W' := by
  obtain ⟨n, hn⟩ := open_rules k0 h0
  obtain ⟨l, hl⟩ := hn (17 + n) (by omega)
  exact parse_backs _ n l v0 W hl
end
end Go.Proofs.YthindhlogkhclaaDoor
section
namespace Go.Proofs.YthindhlogkhclaaDoor.parseBack
open Go.ChangeShapes Go.WideShapes Go.ChangeAt Go.RowKit
theorem own : ownKnob Tryd.prog.godebug = none := by kernel_rfl
theorem laidOut : laidOutB Tryd.prog = true := by kernel_rfl
set_option maxRecDepth 100000 in
theorem lifted (os : Os) (started : os.Started) (H : Type) (enc : TypeId × Value → H) :
    ReturnsInHanded {} Tryd.checked os 3 .any (fun w args => (Rows.parseBackSpec.pre enc Tryd.prog Tryd.f3 [] false w args ∧ laidMetH Tryd.prog Rows.parseBackRow.laid w) ∧ sizedMet enc Tryd.prog Tryd.f3 (OpenSpec.ofChange Rows.parseBackSpec) false w args)
      (Rows.parseBackSpec.post enc Tryd.prog Tryd.f3 false true false false) := by
  refine returnsInHanded_of_change_and (C := Tryd.checked) (X := fun w _ => laidMetH Tryd.prog Rows.parseBackRow.laid w) (fun _ _ _ hh h => h.of_heap hh) own started (by kernel_rfl) Tryd.func3
    (ChangeSpec.witness_shaped (enc := enc) (C := Tryd.checked) (os := os) (X := fun w _ => laidMetH Tryd.prog Rows.parseBackRow.laid w) false (World.laidAll Tryd.prog os Rows.parseBackRow.laid) #[.slice none 0 0] 8 (World.laidAll_os _ _ _)
      (World.shaped_of_ZipB (by kernel_rfl) (by kernel_rfl)) (by kernel_rfl) (by kernel_rfl) (by kernel_rfl)
      (by rw [MakeChecks.laidMetH_plain _ _ _ (by kernel_rfl)]; exact laidMet_laidAll _ (by kernel_rfl) (by kernel_rfl))) ?_
  intro W base args ds gs before hval0 hW _ _ hL _
  have hval : ∀ (j : Nat) t v, Tryd.f3.params[j]? = some t → args[j]? = some v → Value.okWide Tryd.prog W .any base t v := hval0
  have hW' := hW
  obtain ⟨p, q, hA0, hV, rfl, hfz, hnd⟩ := hW
  have hA : DataW.TrodAll enc Tryd.prog W 0 (fun _ => true) true Tryd.f3.params.toList args.toList ds p := hA0
  rw [Tryd.params3] at hA hval
  obtain ⟨v0, vs0, d0, ds0, p0, q0, hargs, rfl, rfl, h0, r0⟩ := trodAll_cons hA
  obtain ⟨rfl, rfl, rfl⟩ := trodAll_nil r0
  obtain rfl : args = #[v0] := by cases args; simp_all
  obtain ⟨rfl, rfl⟩ := trodVars_none hV
  have lt0 : ∀ x ∈ p0, x.block < W.heap.size := by obtain ⟨m, hm⟩ := h0; exact DataW.trod_lt m _ _ _ hm
  refine (parseBack_law enc W base v0 d0 p0 (hval 0 _ v0 rfl rfl) h0).mono fun e W' ⟨he, bel⟩ => ?_
  subst he
  exact ⟨_, rfl, _, _, _, [], _, [], hW', trodAll_mk1 (shut_bool Tryd.underlying4 _), (trodAll_cons_mk (Below.trod laidOut (by kernel_rfl) (of_decide_eq_true (by kernel_rfl)) h0 bel lt0) trodAll_mk0), rfl, bel.frame _, fun h => by cases h⟩
theorem over : Rows.parseBackRow.holds Tryd.pinned (OpenSpec.ofChange Rows.parseBackSpec) :=
  OpenClaim.holds_of_wide 3 Tryd.f3 rfl rfl rfl rfl rfl rfl rfl ⟨rfl, rfl, rfl, rfl, rfl⟩ rfl rfl rfl rfl rfl (by kernel_rfl) Tryd.func3 (by kernel_rfl)
    (of_decide_eq_true (by kernel_rfl)) (by unfold Func.isWrapper; first | (rw [if_pos (by decide +kernel)]; kernel_rfl) | (rw [if_neg (by decide +kernel)]; exact ⟨rfl, rfl⟩))
    (fun os started H enc _ => lifted os started H enc)
theorem proved : Rows.ParseBackSaid := over
theorem row_tie : Rows.parseBackRow.laidByTextAt .later Tryd.pinned [.data, .pinned] true := parseBack_row_tie
theorem card : Rows.ParseBackCardSaid :=
  Claim7.holds_tied_plain_at .later [] [.data, .pinned] true Rows.parseBackCard.stood.harness false
    over (fun _ h => by cases h) (by kernel_rfl) (fun _ h => by cases h) row_tie rfl ⟨rfl, rfl⟩ (by kernel_rfl) rfl
    (fun f fn hf hfn => by
      obtain rfl : f = 3 := Option.some.inj ((show Tryd.prog.funcNamed Rows.parseBackRow.func = some 3 by kernel_rfl).symm.trans hf) |>.symm
      obtain rfl : fn = Tryd.f3 := (Option.some.inj (Tryd.func3.symm.trans hfn)).symm
      exact ⟨by kernel_rfl, fun j t ht => by
        rw [Tryd.params3] at ht
        have hm : t ∈ [22] := by simpa using Array.mem_of_getElem? ht
        have hall : ([22].all fun u => !Tryd.prog.wantsStandIn u) = true := by kernel_rfl
        exact (show Tryd.prog.wantsStandIn t = false by simpa using List.all_eq_true.1 hall t hm)⟩)
    (by kernel_rfl)
end Go.Proofs.YthindhlogkhclaaDoor.parseBack
end
