/-
  Kp: Own words for memory, over any program: nothing but memory has turned, and no block of which a property holds; whole numbers of 64 bits; slices of cells. No condition; nothing of the dump is used here.
  LxN: Plain mathematics of layer 16 (lex): that a text's words stand in order, with nothing but blanks and remarks between (P16.2); two right texts, a line feed between, have the words of both. No program. No condition.
  Args: Arguments opened: a []byte that came in reads as bytes. No condition.
-/
import Derived.Test.YthindhlogkhclaaGreatDoorPz01
import Derived.Test.YthindhlogkhclaaGreatDoorPz02
import Derived.Test.YthindhlogkhclaaGreatDoorProg
import Derived.ProofKit
import Derived.OpenShut
import Derived.Lib.SmallJoins
import Derived.Deep.Slices
set_option linter.unusedVariables false
set_option maxRecDepth 100000
namespace Go.Proofs.YthindhlogkhclaaGreatDoor
section
open Go.RowKit
def I64 (n : Int) : Prop := -9223372036854775808 ≤ n ∧ n ≤ 9223372036854775807
structure KeepP (P : Nat → Prop) (w w' : World) : Prop where
  os : w'.os = w.os
  tape : w'.tape = w.tape
  output : w'.output = w.output
  size : w.heap.size ≤ w'.heap.size
  block : ∀ b, P b → w'.heap[b]? = w.heap[b]?
section
variable {P Q : Nat → Prop} {a b c : World}
theorem KeepP.refl (P : Nat → Prop) (w : World) : KeepP P w w := ⟨rfl, rfl, rfl, Nat.le_refl _, fun _ _ => rfl⟩
theorem KeepP.trans (h : KeepP P a b) (k : KeepP P b c) : KeepP P a c := ⟨k.os.trans h.os, k.tape.trans h.tape, k.output.trans h.output, Nat.le_trans h.size k.size, fun i hi => (k.block i hi).trans (h.block i hi)⟩
theorem KeepP.mono (h : KeepP P a b) (hq : ∀ x, Q x → P x) : KeepP Q a b := ⟨h.os, h.tape, h.output, h.size, fun i hi => h.block i (hq i hi)⟩
theorem KeepP.of_below (h : Below a.heap.size a b) (hp : ∀ x, P x → x < a.heap.size) : KeepP P a b := ⟨h.os, h.tape, h.output, h.size, fun i hi => h.block i (hp i hi)⟩
theorem KeepP.alloc (w : World) (o : Obj) (hp : ∀ x, P x → x < w.heap.size) : KeepP P w (w.alloc o) := KeepP.of_below ((Below.refl _ _).alloc (Nat.le_refl _) o) hp
theorem KeepP.to_below {B : Nat} (h : KeepP P a b) (hp : ∀ x, x < B → P x) : Below B a b := ⟨h.os, h.tape, h.output, h.size, fun i hi => h.block i (hp i hi)⟩
theorem KB.keepP {g : Nat} {t : TypeId} {cs : Array Value} (h : KB a g t cs) (k : KeepP P a b) (hp : P g) : KB b g t cs := h.keep (k.block g hp)
end
section
variable {P Q : Nat → Prop} {a b c : World}
theorem KeepP.drewN (h : KeepP P a b) (n : Nat) : KeepP P a (b.drewN n) := ⟨h.os, h.tape, h.output, h.size, h.block⟩
theorem KeepP.set (h : KeepP P a b) (p : Addr) (hp : ¬ P p.block) (u : Value) : KeepP P a (b.setCell p u) :=
  ⟨h.os, h.tape, h.output, by simp [World.setCell]; exact h.size, fun i hi => (Below.heap_setCell b p u i fun e => hp (e ▸ hi)).trans (h.block i hi)⟩
theorem KeepP.new (h : KeepP P a b) (o : Obj) (hp : ∀ x, P x → x < a.heap.size) : KeepP P a (b.alloc o) :=
  ⟨h.os, h.tape, h.output, by have := h.size; simp; omega, fun i hi => (Below.heap_alloc b o i (by have := hp i hi; have := h.size; omega)).trans (h.block i hi)⟩
theorem KeepP.grown (h : KeepP P a b) {row : Option Nat} (hg : b.grownBy c row) (hr : ∀ g, row = some g → ¬ P g) (hp : ∀ x, P x → x < a.heap.size) : KeepP P a c :=
  ⟨hg.os.trans h.os, hg.tape.trans h.tape, hg.output.trans h.output, Nat.le_trans h.size hg.size, fun i hi => (hg.block i (by have := hp i hi; have := h.size; omega) (fun e => hr i e.symm hi)).trans (h.block i hi)⟩
theorem KeepP.below (h : KeepP P a b) {B : Nat} (hg : Below B b c) (hp : ∀ x, P x → x < B) : KeepP P a c :=
  ⟨hg.os.trans h.os, hg.tape.trans h.tape, hg.output.trans h.output, Nat.le_trans h.size hg.size, fun i hi => (hg.block i (hp i hi)).trans (h.block i hi)⟩
end
theorem own_keep {w w' : World} {B e size n : Nat} {v : Value} {xs : List Value} (h : w.ownsRow B e size v n xs) (hk : ∀ b, v.ownBlock = some b → w'.heap[b]? = w.heap[b]?) : w'.ownsRow B e size v n xs := by
  obtain ⟨h1, h2⟩ := h
  refine ⟨h1, ?_⟩
  rcases h2 with h2 | ⟨g, c, cur, rfl, hb, hg, r⟩
  · exact .inl h2
  · exact .inr ⟨g, c, cur, rfl, hb, (hk g rfl).trans hg, r⟩
def CS (w : World) (S : Nat → Prop) (v : Value) (cs : List Value) : Prop :=
  ∃ A c, v = .slice A cs.length c ∧ cs.length ≤ c ∧ c ≤ maxLen ∧
    (0 < cs.length → ∃ b o, A = some ⟨b, o, none⟩ ∧ S b ∧ b < w.heap.size ∧ ∀ j u, cs[j]? = some u → w.cell? ⟨b, o + j, none⟩ = some u)
section
variable {w w' : World} {S S' : Nat → Prop} {v : Value} {cs : List Value}
theorem CS.nil (w : World) (S : Nat → Prop) : CS w S (.slice none 0 0) [] := ⟨none, 0, rfl, by simp, by simp [maxLen], fun h => absurd h (by simp)⟩
theorem CS.keep (h : CS w S v cs) (hs : w.heap.size ≤ w'.heap.size) (hk : ∀ b, S b → b < w.heap.size → w'.heap[b]? = w.heap[b]?) : CS w' S v cs := by
  obtain ⟨A, c, e, hl, hc, hx⟩ := h
  refine ⟨A, c, e, hl, hc, fun h0 => ?_⟩
  obtain ⟨b, o, ea, sb, hb, hx⟩ := hx h0
  exact ⟨b, o, ea, sb, by omega, fun j u hu => (World.cell?_of_block (w := w) (hk b sb hb)).trans (hx j u hu)⟩
theorem CS.mono (h : CS w S v cs) (hs : ∀ b, S b → S' b) : CS w S' v cs := by
  obtain ⟨A, c, e, hl, hc, hx⟩ := h
  refine ⟨A, c, e, hl, hc, fun h0 => ?_⟩
  obtain ⟨b, o, ea, sb, r⟩ := hx h0
  exact ⟨b, o, ea, hs b sb, r⟩
theorem CS.lt (h : CS w S v cs) : CS w (fun b => S b ∧ b < w.heap.size) v cs := by
  obtain ⟨A, c, e, hl, hc, hx⟩ := h
  refine ⟨A, c, e, hl, hc, fun h0 => ?_⟩
  obtain ⟨b, o, ea, sb, hb, r⟩ := hx h0
  exact ⟨b, o, ea, ⟨sb, hb⟩, hb, r⟩
theorem CS.below' (h : CS w S v cs) (hg : Below w.heap.size w w') : CS w' S v cs := h.keep hg.size fun b _ hb => hg.block b hb
theorem CS.keepP {P : Nat → Prop} (h : CS w S v cs) (k : KeepP P w w') (hp : ∀ b, S b → b < w.heap.size → P b) : CS w' S v cs := h.keep k.size fun b sb hb => k.block b (hp b sb hb)
theorem CS.form (h : CS w S v cs) : ∃ A c, v = .slice A cs.length c ∧ cs.length ≤ c ∧ c ≤ maxLen := by
  obtain ⟨A, c, e, hl, hc, hx⟩ := h
  exact ⟨A, c, e, hl, hc⟩
theorem CS.at_ {A : Option Addr} {n c : Nat} (h : CS w S (.slice A n c) cs) (hp : 0 < cs.length) :
    ∃ b o, A = some ⟨b, o, none⟩ ∧ S b ∧ b < w.heap.size ∧ ∀ j u, cs[j]? = some u → w.cell? ⟨b, o + j, none⟩ = some u := by
  obtain ⟨A', c', e, hl, hc, hx⟩ := h
  injection e with e1 e2 e3
  subst e1
  exact hx hp
theorem CS.of_own {base e n : Nat} (h : w.ownsRow base e 1 v n cs) : CS w (fun b => base ≤ b) v cs := by
  obtain ⟨h1, h2⟩ := h
  have hn : n = cs.length := by simpa using h1.symm
  subst hn
  rcases h2 with ⟨rfl, h0⟩ | ⟨g, cap, cur, rfl, hb, hg, hnc, hcm, hcs, htk⟩
  · obtain rfl : cs = [] := List.eq_nil_of_length_eq_zero h0
    exact CS.nil w _
  · refine ⟨_, _, rfl, hnc, hcm, fun _ => ⟨g, 0, rfl, hb, (Array.getElem?_eq_some_iff.1 hg).1, fun j u hu => ?_⟩⟩
    rw [Nat.zero_add, cell_of_row w g j cur e (0, 0) hg]
    rw [← htk, List.getElem?_take] at hu
    split at hu
    · simpa using hu
    · cases hu
end
end
section
def Tk.size (t : Tk) : Nat := t.text.length + (if t.kind = 2 then 2 else 0)
theorem mk_size (k : Nat) (t : List UInt8) (n : Int) (a : Nat) : (Tk.mk k t n a).size = t.length + (if k = 2 then 2 else 0) := rfl
def OrdT (s : List UInt8) : Nat → List Tk → Prop
  | i, [] => i + skipN false (s.drop i) = s.length
  | i, t :: l => i + skipN false (s.drop i) = t.at_ ∧ 1 ≤ t.size ∧ t.at_ + t.size ≤ s.length ∧ OrdT s (t.at_ + t.size) l
theorem ord_lex (s : List UInt8) : ∀ (f i : Nat), i ≤ s.length → s.length - i < f → (lexL f i (s.drop i)).2.2 = 0 → OrdT s i (lexL f i (s.drop i)).1
  | 0, _, _, h, _ => absurd h (Nat.not_lt_zero _)
  | f + 1, i, hi, hf, he => by
    have hs := skip_le false (s.drop i)
    rw [List.length_drop] at hs
    by_cases h : (s.drop i).drop (skipN false (s.drop i)) = []
    · rw [lex_end h]
      have := List.drop_eq_nil_iff.1 h
      rw [List.length_drop] at this
      show i + _ = _
      omega
    · by_cases h0 : (oneW ((s.drop i).drop (skipN false (s.drop i)))).e = 0
      · have o1 := one_size h0
        rw [lex_one h h0] at he ⊢
        rw [List.drop_drop, List.drop_drop] at *
        rw [List.length_drop] at o1
        obtain ⟨o1, o2, o3, o4, o5, o6⟩ := o1
        refine ⟨rfl, ?_, ?_, ?_⟩
        · rw [mk_size, ← o3]
          exact o1
        · rw [mk_size, ← o3]
          show i + skipN false (s.drop i) + _ ≤ _
          omega
        · rw [mk_size, ← o3]
          exact ord_lex s f (i + skipN false (s.drop i) + (oneW (s.drop (i + skipN false (s.drop i)))).size) (by omega) (by omega) he
      · rw [lex_bad h h0] at he
        exact absurd he h0
theorem all_ord {s : List UInt8} (he : (allS s).2.2 = 0) : OrdT s 0 (allS s).1 := by
  unfold allS at he ⊢
  by_cases h : 600 < s.length
  · rw [if_pos h] at he; exact absurd he (by decide)
  · rw [if_neg h] at he ⊢
    by_cases h2 : (lexL (s.length + 1) 0 s).2.2 = 0
    · rw [if_pos h2]
      have := ord_lex s (s.length + 1) 0 (by omega) (by omega)
      rw [List.drop_zero] at this
      exact this h2
    · rw [if_neg h2] at he; exact absurd he h2
/-! Two texts. -/
theorem skip_join : ∀ (b : Bool) (l m : List UInt8), skipN b (l ++ 10 :: m) = if l.drop (skipN b l) = [] then l.length + 1 + skipN false m else skipN b l
  | true, [], m => by
    have e : skipN true (10 :: m) = skipN false m + 1 := by rw [skipN, if_pos (by decide)]
    rw [List.nil_append, e, if_pos (by simp), List.length_nil]
    omega
  | false, [], m => by
    have e : skipN false (10 :: m) = skipN false m + 1 := by rw [skipN, if_neg (by decide), if_pos (by decide)]
    rw [List.nil_append, e, if_pos (by simp), List.length_nil]
    omega
  | true, b :: l, m => by
    rw [List.cons_append, skipN, skipN]
    by_cases h : b.toNat = 10
    · rw [if_pos h, if_pos h, skip_join false l m, List.drop_succ_cons, List.length_cons]
      split <;> omega
    · rw [if_neg h, if_neg h, skip_join true l m, List.drop_succ_cons, List.length_cons]
      split <;> omega
  | false, b :: l, m => by
    rw [List.cons_append, skipN, skipN]
    by_cases h : b.toNat = 35
    · rw [if_pos h, if_pos h, skip_join true l m, List.drop_succ_cons, List.length_cons]
      split <;> omega
    · rw [if_neg h, if_neg h]
      by_cases h2 : blankC b.toNat = true
      · rw [if_pos h2, if_pos h2, skip_join false l m, List.drop_succ_cons, List.length_cons]
        split <;> omega
      · rw [if_neg h2, if_neg h2, List.drop_zero, if_neg (by simp)]
theorem parse_unit {l : List UInt8} (h : (parseD l).2 = 0) : ∃ c, l.getLast? = some c ∧ unitD c.toNat ≠ 0 := by
  unfold parseD at h
  cases hl : l.getLast? with
  | none => rw [hl] at h; simp at h
  | some c =>
    rw [hl] at h
    refine ⟨c, rfl, fun e => ?_⟩
    simp only at h
    rw [if_pos e] at h
    exact absurd h (by decide)
theorem unit_dig {c : Nat} (h : unitD c ≠ 0) : digC c = false := by
  rcases unit_cases c with e | ⟨e, _⟩ | ⟨e, _⟩ | ⟨e, _⟩ | ⟨e, _⟩
  · exact absurd e h
  all_goals (rw [e]; decide)
theorem span_room {r : List UInt8} (h : (parseD (spanE r)).2 = 0) : takeN digC r < r.length := by
  have hle := takeN_le digC r
  refine Classical.byContradiction fun hn => ?_
  obtain ⟨c, hc, hu⟩ := parse_unit h
  have e : spanE r = r := by unfold spanE; rw [List.take_of_length_le (by omega)]
  rw [e] at hc
  have hd := unit_dig hu
  rw [List.getLast?_eq_getElem?] at hc
  have hlt := (List.getElem?_eq_some_iff.1 hc).1
  have := takeN_in digC r _ c hc (by omega)
  rw [hd] at this
  cases this
theorem one_join {r : List UInt8} (m : List UInt8) (h : (oneW r).e = 0) : oneW (r ++ 10 :: m) = oneW r := by
  cases r with
  | nil => exact absurd h (by decide)
  | cons c l =>
    rw [List.cons_append, oneW_cons, oneW_cons]
    rw [oneW_cons] at h
    unfold oneC at h ⊢
    by_cases h1 : c.toNat = 40
    · rw [if_pos h1, if_pos h1]
    rw [if_neg h1] at h ⊢
    rw [if_neg h1]
    by_cases h2 : c.toNat = 41
    · rw [if_pos h2, if_pos h2]
    rw [if_neg h2] at h ⊢
    rw [if_neg h2]
    by_cases h3 : c.toNat = 59
    · rw [if_pos h3, if_pos h3]
    rw [if_neg h3] at h ⊢
    rw [if_neg h3]
    by_cases h4 : lowC c.toNat = true
    · rw [if_pos h4, if_pos h4]
      unfold wordW
      have e := takeN_wall wordC (c :: l) m 10 (by decide)
      rw [List.cons_append] at e
      rw [e, ← List.cons_append, List.take_append_of_le_length (takeN_le _ _)]
    rw [if_neg h4] at h ⊢
    rw [if_neg h4]
    by_cases h5 : c.toNat = 34
    · rw [if_pos h5] at h ⊢
      rw [if_pos h5]
      unfold quoteW at h ⊢
      by_cases h6 : takeN noQ l < l.length ∧ nameS (l.take (takeN noQ l)) = true
      · rw [takeN_append noQ l _ h6.1, List.take_append_of_le_length (takeN_le _ _), if_pos h6, if_pos ⟨by rw [List.length_append]; omega, h6.2⟩]
      · rw [if_neg h6] at h; exact absurd h (by decide)
    rw [if_neg h5] at h ⊢
    rw [if_neg h5]
    by_cases h6 : digC c.toNat = true
    · rw [if_pos h6] at h ⊢
      rw [if_pos h6]
      unfold spanW at h ⊢
      by_cases h7 : (parseD (spanE (c :: l))).2 = 0
      · have hr := span_room h7
        have e : spanE (c :: (l ++ 10 :: m)) = spanE (c :: l) := by
          unfold spanE
          rw [← List.cons_append, takeN_append digC (c :: l) _ hr, List.take_append_of_le_length hr]
        rw [e]
      · rw [if_neg h7] at h; exact absurd h h7
    · rw [if_neg h6] at h; exact absurd h (by decide)
def Tk.on (d : Nat) (t : Tk) : Tk := { t with at_ := t.at_ + d }
theorem lex_on (d : Nat) : ∀ (f a : Nat) (r : List UInt8), lexL f (a + d) r = ((lexL f a r).1.map (Tk.on d), (lexL f a r).2.1 + d, (lexL f a r).2.2)
  | 0, a, r => rfl
  | f + 1, a, r => by
    by_cases h : r.drop (skipN false r) = []
    · rw [lex_end h, lex_end h]
      refine Prod.ext rfl (Prod.ext ?_ rfl)
      show a + d + _ = a + _ + d
      omega
    · by_cases h0 : (oneW (r.drop (skipN false r))).e = 0
      · rw [lex_one h h0, lex_one h h0, show a + d + skipN false r + (oneW (r.drop (skipN false r))).size = a + skipN false r + (oneW (r.drop (skipN false r))).size + d by omega, lex_on d f]
        refine Prod.ext ?_ (Prod.ext rfl rfl)
        show _ :: _ = _ :: _
        congr 1
        unfold Tk.on
        simp only [Tk.mk.injEq, true_and]
        omega
      · rw [lex_bad h h0, lex_bad h h0]
        refine Prod.ext rfl (Prod.ext ?_ rfl)
        show a + d + _ = a + _ + d
        omega
theorem lex_join : ∀ (f a : Nat) (l m : List UInt8), (l ++ 10 :: m).length < f → (lexL f a l).2.2 = 0 →
    lexL f a (l ++ 10 :: m) = ((lexL f a l).1 ++ (lexL f (a + l.length + 1) m).1, (lexL f (a + l.length + 1) m).2)
  | 0, _, _, _, h, _ => absurd h (Nat.not_lt_zero _)
  | f + 1, a, l, m, hf, he => by
    have hs := skip_le false l
    have hj := skip_join false l m
    rw [List.length_append, List.length_cons] at hf
    by_cases h : l.drop (skipN false l) = []
    · rw [if_pos h] at hj
      rw [lex_end h]
      have hd : (l ++ 10 :: m).drop (skipN false (l ++ 10 :: m)) = m.drop (skipN false m) := by
        rw [hj, show l.length + 1 + skipN false m = l.length + (1 + skipN false m) by omega, ← List.drop_drop, List.drop_left, Nat.add_comm 1, List.drop_succ_cons]
      have e2 : a + skipN false (l ++ 10 :: m) = a + l.length + 1 + skipN false m := by omega
      rw [lexL, lexL, hd, e2]
      try rfl
    · by_cases h0 : (oneW (l.drop (skipN false l))).e = 0
      · rw [if_neg h] at hj
        have hd : (l ++ 10 :: m).drop (skipN false (l ++ 10 :: m)) = l.drop (skipN false l) ++ 10 :: m := by rw [hj, List.drop_append_of_le_length hs]
        have hne : (l ++ 10 :: m).drop (skipN false (l ++ 10 :: m)) ≠ [] := by rw [hd]; simp
        have ho := one_join m h0
        have o1 := one_size h0
        have hl := drop_less h h0
        rw [List.length_drop] at o1
        rw [lex_one h h0] at he ⊢
        rw [lex_one hne (by rw [hd, ho]; exact h0), hd, ho, hj, List.drop_append_of_le_length (by rw [List.length_drop]; exact o1.2.1)]
        have ih := lex_join f (a + skipN false l + (oneW (l.drop (skipN false l))).size) ((l.drop (skipN false l)).drop (oneW (l.drop (skipN false l))).size) m (by rw [List.length_append, List.length_cons]; omega) he
        have ea : a + skipN false l + (oneW (l.drop (skipN false l))).size + ((l.drop (skipN false l)).drop (oneW (l.drop (skipN false l))).size).length + 1 = a + l.length + 1 := by rw [List.length_drop, List.length_drop]; omega
        rw [ea] at ih
        rw [ih, lex_fuel f (f + 1) (a + l.length + 1) m (by omega) (by omega)]
        rfl
      · rw [lex_bad h h0] at he; exact absurd he h0
theorem all_join {s t : List UInt8} (hs : s.length ≤ 300) (ht : t.length ≤ 290) (h1 : (allS s).2.2 = 0) (h2 : (allS t).2.2 = 0) :
    allS (s ++ 10 :: t) = ((allS s).1 ++ (allS t).1.map (Tk.on (s.length + 1)), s.length + t.length + 1, 0) := by
  have alls : ∀ u : List UInt8, u.length ≤ 600 → (allS u).2.2 = 0 → (lexL (u.length + 1) 0 u).2.2 = 0 ∧ allS u = lexL (u.length + 1) 0 u := by
    intro u hu h
    unfold allS at h ⊢
    rw [if_neg (by omega)] at h ⊢
    by_cases h2 : (lexL (u.length + 1) 0 u).2.2 = 0
    · rw [if_pos h2]; exact ⟨h2, rfl⟩
    · rw [if_neg h2] at h; exact absurd h h2
  obtain ⟨e1, a1⟩ := alls s (by omega) h1
  obtain ⟨e2, a2⟩ := alls t (by omega) h2
  have hlen : (s ++ 10 :: t).length = s.length + t.length + 1 := by rw [List.length_append, List.length_cons]; omega
  have f1 := lex_fuel (s.length + 1) (s.length + t.length + 2) 0 s (by omega) (by omega)
  have f2 := lex_fuel (t.length + 1) (s.length + t.length + 2) 0 t (by omega) (by omega)
  have p2 := (lex_place (t.length + 1) 0 t (by omega)).2.2 e2
  have j := lex_join (s.length + t.length + 2) 0 s t (by omega) (by rw [← f1]; exact e1)
  have o := lex_on (s.length + 1) (s.length + t.length + 2) 0 t
  rw [show 0 + s.length + 1 = 0 + (s.length + 1) by omega, o, ← f1, ← f2, e2] at j
  have e3 : allS (s ++ 10 :: t) = lexL (s.length + t.length + 2) 0 (s ++ 10 :: t) := by
    unfold allS
    rw [if_neg (by omega), hlen, if_pos (by rw [j])]
  rw [e3, j, a1, a2]
  refine Prod.ext rfl (Prod.ext ?_ rfl)
  show (lexL (t.length + 1) 0 t).2.1 + (s.length + 1) = s.length + t.length + 1
  omega
end
section
open Go.RowKit Go.ChangeShapes Go.WideShapes Go.Joins
theorem cells_byte : Tryz.prog.cellsOf 5 = 1 := by kernel_rfl
def byteOf (z : Int) : UInt8 := UInt8.ofNat z.toNat
theorem byteOf_nat {z : Int} (h : (Lit.int .u8 z).wf = true) : ((byteOf z).toNat : Int) = z := by
  have hx : 0 ≤ z ∧ z ≤ 255 := by simpa [Lit.wf, IntKind.min, IntKind.max, IntKind.signed, IntKind.bits] using h
  unfold byteOf
  have : (UInt8.ofNat z.toNat).toNat = z.toNat % 256 := by simp
  rw [this]
  omega
theorem BS_of_trod {H : Type} {enc : TypeId × Value → H} {W : World} {fuel : Nat} {v : Value} {x : DataW H × List MemPlace}
    (h : DataW.trod enc Tryz.prog W 0 (fun _ => true) true fuel 111 [v] = some x) : ∃ l, BS W (fun _ => True) v l := by
  rcases open_ints Tryz.underlying111 Tryz.underlying5 cells_byte h with ⟨hcs, _⟩ | ⟨a, len, cap, zs, hcs, _, hl, hm, hz, _, hcell, hwz⟩
  · simp at hcs
    subst hcs
    exact ⟨[], BS.nil _ _⟩
  · simp at hcs
    subst hcs
    simp only [if_true] at hz
    have hlen : ((zs.take len).map byteOf).length = len := by simp; omega
    refine ⟨(zs.take len).map byteOf, some a, cap, by rw [hlen], by omega, hm, (fun h => by cases h), fun h0 => ?_⟩
    rw [hlen] at h0
    obtain ⟨b, o, rfl, hc⟩ := ints_at hcell (by omega)
    refine ⟨b, o, rfl, trivial, World.block_lt_of_cell? _ _ (hc 0 (by omega)), fun j u hu => ?_⟩
    have hj : j < len := by
      have := (List.getElem?_eq_some_iff.1 hu).1
      omega
    rw [hc j (by omega)]
    have hjz : j < zs.length := by omega
    simp [hj, List.getElem?_eq_getElem hjz] at hu
    subst hu
    unfold bv
    rw [byteOf_nat (hwz _ (List.getElem_mem hjz))]
    simp [List.getD, List.getElem?_eq_getElem hjz]
theorem BS_of_arg {H : Type} {enc : TypeId × Value → H} {W : World} {base : Nat} {v : Value} {d : DataW H} {p : List MemPlace}
    (ok : Value.okWide Tryz.prog W .any base 111 v) (h : DataW.Trod enc Tryz.prog W 0 (fun _ => true) true 111 v d p) : ∃ l, BS W (fun _ => True) v l := by
  obtain ⟨a0, len, cap, rfl⟩ := okWide_slice Tryz.underlying111 ok
  obtain ⟨fuel, hf⟩ := h
  exact BS_of_trod (x := _) hf
theorem cells_bytes : Tryz.prog.cellsOf 111 = 1 := by kernel_rfl
end
end Go.Proofs.YthindhlogkhclaaGreatDoor
