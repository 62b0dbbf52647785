/-
  PaK: Rows of rules of a call's own: what they read as, and append onto them; words of a text are not too many, nor too long: over the loaded program. No condition.
  PaQ: Plain mathematics of layer 18 (parse): two fuel a word, and one, are enough. No program. No condition.
-/
import Derived.Test.YthindhlogkhclaaGreatDoorPz25
import Derived.Test.YthindhlogkhclaaGreatDoorPz04
set_option linter.unusedVariables false
set_option maxRecDepth 100000
namespace Go.Proofs.YthindhlogkhclaaGreatDoor
section
open Go.RowKit
theorem one_num {r : List UInt8} (h : (oneW r).e = 0) : I64 (oneW r).n := by
  cases r with
  | nil => exact absurd h (by decide)
  | cons c l =>
    rw [oneW_cons] at h ⊢
    unfold oneC at h ⊢
    have z : ∀ k t s e, I64 (⟨k, t, 0, s, e⟩ : Wd).n := fun k t s e => by show I64 0; unfold I64; omega
    by_cases h1 : c.toNat = 40
    · rw [if_pos h1]; exact z _ _ _ _
    rw [if_neg h1] at h ⊢
    by_cases h2 : c.toNat = 41
    · rw [if_pos h2]; exact z _ _ _ _
    rw [if_neg h2] at h ⊢
    by_cases h3 : c.toNat = 59
    · rw [if_pos h3]; exact z _ _ _ _
    rw [if_neg h3] at h ⊢
    by_cases h4 : lowC c.toNat = true
    · rw [if_pos h4]; exact z _ _ _ _
    rw [if_neg h4] at h ⊢
    by_cases h5 : c.toNat = 34
    · rw [if_pos h5] at h ⊢
      unfold quoteW at h ⊢
      split
      · exact z _ _ _ _
      · exact z _ _ _ _
    rw [if_neg h5] at h ⊢
    by_cases h6 : digC c.toNat = true
    · rw [if_pos h6] at h ⊢
      unfold spanW at h ⊢
      by_cases h7 : (parseD (spanE (c :: l))).2 = 0
      · rw [if_pos h7]
        obtain ⟨a, b, _⟩ := text_parse _ h7
        show I64 (parseD (spanE (c :: l))).1
        unfold I64; omega
      · rw [if_neg h7]; exact z _ _ _ _
    · rw [if_neg h6]; exact z _ _ _ _
theorem lex_num : ∀ (f a : Nat) (r : List UInt8) (t : Tk), t ∈ (lexL f a r).1 → I64 t.n
  | 0, _, _, _, h => by cases h
  | f + 1, a, r, t, ht => by
    by_cases h : r.drop (skipN false r) = []
    · rw [lex_end h] at ht; cases ht
    · by_cases he : (oneW (r.drop (skipN false r))).e = 0
      · rw [lex_one h he] at ht
        rcases List.mem_cons.1 ht with rfl | ht
        · exact one_num he
        · exact lex_num f _ _ t ht
      · rw [lex_bad h he] at ht; cases ht
theorem fine_all (s : List UInt8) : FineL (allS s).1 ∧ (allS s).1.length ≤ 600 := by
  by_cases h6 : 600 < s.length
  · unfold allS; rw [if_pos h6]; exact ⟨⟨by simp, fun t ht => by cases ht⟩, by simp⟩
  · have h6' : s.length ≤ 600 := by omega
    unfold allS
    rw [if_neg h6]
    by_cases h : (lexL (s.length + 1) 0 s).2.2 = 0
    · rw [if_pos h]
      have hc := lex_count (s.length + 1) 0 s (by omega)
      refine ⟨⟨by omega, fun t ht => ⟨lex_num _ _ _ t ht, ?_⟩⟩, by omega⟩
      have := (lex_text (s.length + 1) 0 s t (by omega) ht).1
      unfold maxLen; omega
    · rw [if_neg h]; exact ⟨⟨by simp, fun t ht => by cases ht⟩, by simp⟩
abbrev SxR := Value × Value × Value × Value × Value × Value
def sixR (q : SxR) : List Value := [q.1, q.2.1, q.2.2.1, q.2.2.2.1, q.2.2.2.2.1, q.2.2.2.2.2]
def flatR (qs : List SxR) : List Value := qs.flatMap sixR
theorem flatR_cons (q : SxR) (qs : List SxR) : flatR (q :: qs) = sixR q ++ flatR qs := rfl
theorem flatR_append (a b : List SxR) : flatR (a ++ b) = flatR a ++ flatR b := List.flatMap_append
theorem flatR_length : ∀ (qs : List SxR), (flatR qs).length = qs.length * 6
  | [] => rfl
  | q :: qs => by rw [flatR_cons, List.length_append, flatR_length qs]; simp [sixR, Nat.succ_mul]; omega
theorem flatR_at : ∀ (qs : List SxR) (i : Nat) (q : SxR), qs[i]? = some q → ∀ k, k < 6 → (flatR qs)[i * 6 + k]? = (sixR q)[k]?
  | [], i, q, h => by simp at h
  | p :: qs, 0, q, h => by
    intro k hk
    simp at h
    subst h
    rw [flatR_cons, Nat.zero_mul, Nat.zero_add, List.getElem?_append_left (show k < (sixR p).length from hk)]
  | p :: qs, i + 1, q, h => by
    intro k hk
    have := flatR_at qs i q (by simpa using h) k hk
    rw [flatR_cons, List.getElem?_append_right (by show 6 ≤ _; omega), show (sixR p).length = 6 from rfl, ← this]
    congr 1
    omega
def QR (w : World) (S : Nat → Prop) (f : Nat) (qs : List SxR) (ks : List (Rl f)) : Prop :=
  qs.length = ks.length ∧ ∀ (i : Nat) (q : SxR) (t : Rl f), qs[i]? = some q → ks[i]? = some t → RX w S f t q.1 q.2.1 q.2.2.1 q.2.2.2.1 q.2.2.2.2.1 q.2.2.2.2.2
section
variable {w w' : World} {S S' : Nat → Prop} {f : Nat} {qs ps : List SxR} {ks ls : List (Rl f)}
theorem RX.keepL {t : Rl f} {c0 c1 c2 c3 c4 c5 : Value} (h : RX w S f t c0 c1 c2 c3 c4 c5) (hs : w.heap.size ≤ w'.heap.size) (hk : ∀ b, S b → b < w.heap.size → w'.heap[b]? = w.heap[b]?) (hS : ∀ b, S b → b < w.heap.size → S' b) : RX w' S' f t c0 c1 c2 c3 c4 c5 := by
  obtain ⟨h0, h1, h2, h3, h4⟩ := h
  exact ⟨h0, h1, EX.keepL f _ _ _ _ _ h2 hs hk hS, h3, h4⟩
theorem QR.keepL (h : QR w S f qs ks) (hs : w.heap.size ≤ w'.heap.size) (hk : ∀ b, S b → b < w.heap.size → w'.heap[b]? = w.heap[b]?) (hS : ∀ b, S b → b < w.heap.size → S' b) : QR w' S' f qs ks :=
  ⟨h.1, fun i q t hq ht => (h.2 i q t hq ht).keepL hs hk hS⟩
theorem QR.nil (w : World) (S : Nat → Prop) (f : Nat) : QR w S f [] [] := ⟨rfl, fun i q t h => by simp at h⟩
theorem QR.append (h : QR w S f qs ks) (g : QR w S f ps ls) : QR w S f (qs ++ ps) (ks ++ ls) := by
  refine ⟨by rw [List.length_append, List.length_append, h.1, g.1], fun i q t hq ht => ?_⟩
  rcases Nat.lt_or_ge i qs.length with hi | hi
  · rw [List.getElem?_append_left hi] at hq
    rw [List.getElem?_append_left (by rw [← h.1]; exact hi)] at ht
    exact h.2 i q t hq ht
  · rw [List.getElem?_append_right hi] at hq
    rw [List.getElem?_append_right (by rw [← h.1]; exact hi), ← h.1] at ht
    exact g.2 _ q t hq ht
theorem QR.one {c0 c1 c2 c3 c4 c5 : Value} {t : Rl f} (h : RX w S f t c0 c1 c2 c3 c4 c5) : QR w S f [(c0, c1, c2, c3, c4, c5)] [t] := by
  refine ⟨rfl, fun i q u hq hu => ?_⟩
  match i, hq, hu with
  | 0, hq, hu => simp at hq hu; subst hq hu; exact h
end
theorem RS_of_own {w : World} {S : Nat → Prop} {f base : Nat} {v : Value} {qs : List SxR} {ks : List (Rl f)} (h : w.ownsRow base 44 6 v qs.length (flatR qs)) (hq : QR w S f qs ks)
    (hS : ∀ b, base ≤ b → b < w.heap.size → S b) : RS w S f v ks := by
  obtain ⟨_, h2⟩ := h
  rw [hq.1] at h2
  rcases h2 with ⟨rfl, h0⟩ | ⟨g, cap, cur, rfl, hb, hg, hnc, hcm, hcs, htk⟩
  · obtain rfl : ks = [] := List.eq_nil_of_length_eq_zero h0
    exact RS.nil _ _ _
  · have hlt : g < w.heap.size := (Array.getElem?_eq_some_iff.1 hg).1
    refine ⟨_, cap, rfl, hnc, hcm, fun h0 => ⟨g, 0, rfl, hS g hb hlt, hlt, fun i t hi => ?_⟩⟩
    have hil := (List.getElem?_eq_some_iff.1 hi).1
    have hqi : qs[i]? = some (qs[i]'(by rw [hq.1]; exact hil)) := List.getElem?_eq_getElem _
    have cell : ∀ k u, k < 6 → (sixR (qs[i]'(by rw [hq.1]; exact hil)))[k]? = some u → w.cell? ⟨g, 0 + i * 6 + k, none⟩ = some u := fun k u hk hu => by
      rw [← flatR_at qs i _ hqi k hk] at hu
      rw [cell_of_row w g (0 + i * 6 + k) cur _ (0, 0) hg, Nat.zero_add]
      rw [← htk, List.getElem?_take, if_pos (by omega)] at hu
      simpa using hu
    exact ⟨_, _, _, _, _, _, cell 0 _ (by omega) rfl, cell 1 _ (by omega) rfl, cell 2 _ (by omega) rfl, cell 3 _ (by omega) rfl, cell 4 _ (by omega) rfl, cell 5 _ (by omega) rfl, hq.2 i _ t hqi hi⟩
theorem info_rule : (Tryz.prog.info? 44).map (fun i => (i.zero, i.size, i.bytes)) = some (some (.agg #[.string ⟨#[]⟩, .int .i64 0, .int .i64 0, .string ⟨#[]⟩, .slice none 0 0, .int .i64 0]), 6, 80) := by kernel_rfl
theorem run_growR (w : World) (base : Nat) (v : Value) (qs : List SxR) (hown : w.ownsRow base 44 6 v qs.length (flatR qs)) (ad : Addr) (c : Nat) (p : SxR) (hx : ∀ j u, (sixR p)[j]? = some u → w.cell? (ad.add j) = some u) (h1 : ∀ u ∈ sixR p, u.oneCell' = true)
    (hb : qs.length ≤ 1000000000) (hbase : base ≤ w.heap.size) (ty : TypeId) :
    ∃ v' w', (Builtin.append_ #[23, 23] ty #[v, .slice (some ad) 1 c]).run Tryz.prog w = .ok v' w' ∧ w'.ownsRow base 44 6 v' (qs ++ [p]).length (flatR (qs ++ [p])) ∧ w.grownBy w' v.ownBlock ∧
      (v'.ownBlock = v.ownBlock ∨ v'.ownBlock = some w.heap.size) := by
  obtain ⟨i0, hi, hz0, hz1, hz2⟩ := info_parts info_rule
  have e : flatR [p] = sixR p := by simp [flatR]
  obtain ⟨v', w', a1, a2, a3, _, a5⟩ := run_append_own_at (P := Tryz.prog) (w := w) base 23 ty 44 i0 _ 6 80 Tryz.underlying23 hi hz0 hz1 hz2 rfl (by omega) v qs.length _ hown ad 1 c (flatR [p]) (flatR_length [p]) (by rw [e]; exact hx) (by rw [e]; exact h1)
    (by unfold maxLen; omega) (by omega) hbase
  exact ⟨v', w', a1, by rw [List.length_append, flatR_append]; exact a2, a3, a5⟩
theorem wpList_growR (w : World) {ops : Array Oper} {rest : List Oper} {o : Oper} {a : Act} {Q : Exit → Act → World → Prop} (hgd : o.guard = none) (s y : Operand)
    (ho : o.op = .call { callee := .builtin .append, args := #[s, y], argTypes := #[23, 23] })
    (base : Nat) (v : Value) (qs : List SxR) (hs : a.eval s = v) (hown : w.ownsRow base 44 6 v qs.length (flatR qs))
    (ad : Addr) (c : Nat) (p : SxR) (hye : a.eval y = .slice (some ad) 1 c) (hx : ∀ j u, (sixR p)[j]? = some u → w.cell? (ad.add j) = some u) (h1 : ∀ u ∈ sixR p, u.oneCell' = true)
    (hb : qs.length ≤ 1000000000) (hbase : base ≤ w.heap.size)
    (h : ∀ v' w', w'.ownsRow base 44 6 v' (qs ++ [p]).length (flatR (qs ++ [p])) → w.grownBy w' v.ownBlock → (v'.ownBlock = v.ownBlock ∨ v'.ownBlock = some w.heap.size) → wpList Tryz.prog ops Q rest (a.put o.dst v') w') :
    wpList Tryz.prog ops Q (o :: rest) a w := by
  refine wpList_plain hgd fun K hK => ?_
  obtain ⟨v', w', hrun, h2, h3, h4⟩ := run_growR w base v qs hown ad c p hx h1 hb hbase o.type
  unfold Oper.wp execOp
  simp only [ho, resolve, invoke, builtin, Sem.run_bind, Sem.run_pure, Result.andThen_ok, List.map_toArray, List.map_cons, List.map_nil, hs, hye, hrun]
  exact hK _ _ (h v' w' h2 h3 h4)
end
section
def overP (s : Ps) : Int := s.fuel - 2 * (s.rest.length : Int)
structure Rich {α : Type} (f : Ps → α × Ps) (p a : Int) : Prop where
  way : Way f
  enough : ∀ s, s.e = 0 → 1 + p ≤ overP s → (f s).2.e ≠ 14 ∧ ((f s).2.e = 0 → overP s + a ≤ overP (f s).2)
theorem Rich.bind {α β : Type} {f : Ps → α × Ps} {g : α → Ps → β × Ps} {p a q b : Int} (hf : Rich f p a) (hg : ∀ x, Rich (g x) q b) (h : q ≤ p + a) : Rich (fun s => g (f s).1 (f s).2) p (a + b) where
  way := hf.way.bind fun x => (hg x).way
  enough s he hp := by
    obtain ⟨h1, h2⟩ := hf.enough s he hp
    by_cases h0 : (f s).2.e = 0
    · have h3 := h2 h0
      obtain ⟨h4, h5⟩ := (hg (f s).1).enough (f s).2 h0 (by omega)
      exact ⟨h4, fun hz => by have := h5 hz; show overP s + (a + b) ≤ overP (g (f s).1 (f s).2).2; omega⟩
    · have h3 := (hg (f s).1).way.stays (f s).2 h0
      exact ⟨by show (g (f s).1 (f s).2).2.e ≠ 14; rw [h3]; exact h1, fun hz => absurd (h3.symm.trans hz) h0⟩
theorem Rich.weak {α : Type} {f : Ps → α × Ps} {p a p' a' : Int} (hf : Rich f p a) (hp : p ≤ p') (ha : a' ≤ a) : Rich f p' a' where
  way := hf.way
  enough s he h := by
    obtain ⟨h1, h2⟩ := hf.enough s he (by omega)
    exact ⟨h1, fun hz => by have := h2 hz; omega⟩
theorem Rich.pure {α : Type} (x : α) (p : Int) : Rich (fun s => (x, s)) p 0 where
  way := Way.pure x
  enough s he h := ⟨by show s.e ≠ 14; rw [he]; decide, fun _ => by show overP s + 0 ≤ overP s; omega⟩
theorem Rich.map {α β : Type} {f : Ps → α × Ps} {p a : Int} (hf : Rich f p a) (g : α → β) : Rich (fun s => (g (f s).1, (f s).2)) p a where
  way := hf.way.map g
  enough := hf.enough
theorem Rich.ite {α : Type} {f g : Ps → α × Ps} {c : Ps → Bool} {p a : Int} (hc : ∀ k s s', Sim k s s' → c s' = c s) (hf : Rich f p a) (hg : Rich g p a) : Rich (fun s => if c s = true then f s else g s) p a where
  way := Way.ite hc hf.way hg.way
  enough s he h := by
    by_cases hb : c s = true
    · rw [if_pos hb]; exact hf.enough s he h
    · rw [if_neg hb]; exact hg.enough s he h
theorem Rich.gas {α : Type} {f : Nat → Ps → α × Ps} {p a : Int} (h : ∀ g, Rich (f g) p a) : Rich (fun s => f s.rest.length s) p a where
  way := Way.gas fun g => (h g).way
  enough s := (h _).enough s
theorem Rich.next (i : Nat) (w : List UInt8) : Rich (nextP i w) 0 1 where
  way := Way.next i w
  enough s he h := by
    have hf : ¬ s.fuel < 1 := by unfold overP at h; omega
    unfold nextP
    rw [burn_ok he hf, if_pos rfl]
    rcases take_cases i w ⟨s.rest, s.fuel - 1, 0, s.used + 1⟩ with e | ⟨t, r, e1, e⟩
    · rw [e]
      exact ⟨by show (2 : Int) ≠ 14; decide, fun hz => absurd hz (by show ¬ (2 : Int) = 0; decide)⟩
    · rw [e]
      have e2 : s.rest = t :: r := e1
      refine ⟨by show (0 : Int) ≠ 14; decide, fun _ => ?_⟩
      show s.fuel - 2 * (s.rest.length : Int) + 1 ≤ s.fuel - 1 - 2 * (r.length : Int)
      rw [e2, List.length_cons]
      omega
theorem Rich.mile : Rich mileP 0 1 where
  way := Way.mile
  enough s he h := by
    by_cases hc : s.e = 0 ∧ 0 < s.fuel ∧ isP 1 [] s = true ∧ wordS (headP s) = false
    · rw [mile_yes hc]
      exact ⟨by show (2 : Int) ≠ 14; decide, fun hz => absurd hz (by show ¬ (2 : Int) = 0; decide)⟩
    · rw [mile_no hc]
      exact (Rich.next 1 []).enough s he h
theorem Rich.span (k : Nat) : Rich (spanP k) 0 1 :=
  ((Rich.next 3 []).bind (g := fun (a : Tk) s => (markP k a.n (mileP (nextP 1 afterP s).2).1, (mileP (nextP 1 afterP s).2).2)) (q := 0) (b := 2) (fun a =>
    ((Rich.next 1 afterP).bind (g := fun _ s => (markP k a.n (mileP s).1, (mileP s).2)) (q := 0) (b := 1) (fun _ => Rich.mile.map (markP k a.n)) (by omega)).weak (by omega) (by omega)) (by omega)).weak (by omega) (by omega)
theorem Rich.inner {α : Type} {f : Ps → α × Ps} (hf : Rich f 1 0) : Rich (innerP f) 0 1 :=
  ((Rich.next 4 []).bind (g := fun _ s => ((f s).1, (nextP 5 [] (f s).2).2)) (q := 1) (b := 1) (fun _ =>
    (hf.bind (g := fun x s => (x, (nextP 5 [] s).2)) (q := 0) (b := 1) (fun x => (Rich.next 5 []).map fun _ => x) (by omega)).weak (by omega) (by omega)) (by omega)).weak (by omega) (by omega)
theorem Rich.fact {k : Nat} {f : Ps → Ex (k + 1) × Ps} (hf : Rich f 1 0) : Rich (factP f) 0 1 := Rich.ite (fun k s s' h => is_sim h 4 []) hf.inner (Rich.span k)
theorem Rich.more {α : Type} {f : Ps → α × Ps} (hf : Rich f 0 1) (w : List UInt8) : ∀ (g : Nat) (l : List α), Rich (moreP f w g l) 0 0
  | 0, l => Rich.pure l 0
  | g + 1, l => Rich.ite (fun k s s' h => is_sim h 1 w) (((Rich.next 1 w).bind (g := fun _ s => moreP f w g (l ++ [(f s).1]) (f s).2) (q := 0) (b := 1) (fun _ => (hf.bind (g := fun x s => moreP f w g (l ++ [x]) s) (q := 0) (b := 0) (fun x => Rich.more hf w g (l ++ [x])) (by omega)).weak (by omega) (by omega)) (by omega)).weak (by omega) (by omega)) (Rich.pure l 0)
theorem Rich.many {α : Type} {f : Ps → α × Ps} (hf : Rich f 0 1) (w : List UInt8) : Rich (manyP f w) 0 1 :=
  Rich.gas (f := fun g s => moreP f w g [(f s).1] (f s).2) fun g => (hf.bind (g := fun x s => moreP f w g [x] s) (q := 0) (b := 0) (fun x => Rich.more hf w g [x]) (by omega)).weak (by omega) (by omega)
theorem Rich.term {k : Nat} {f : Ps → Ex (k + 1) × Ps} (hf : Rich f 1 0) : Rich (termP f) 0 1 := (hf.fact.many andP).map (packP (k + 1) 3)
theorem Rich.cond : ∀ d : Nat, Rich (condP d) 1 0
  | 0 =>
    { way := Way.cond 0
      enough := fun s he h => by
        have hf : ¬ s.fuel < 1 := by unfold overP at h; omega
        show (deepP (burnP s)).e ≠ 14 ∧ _
        rw [burn_ok he hf, deep_ok rfl]
        refine ⟨by show (2 : Int) ≠ 14; decide, fun hz => ?_⟩
        change (deepP (burnP s)).e = 0 at hz
        rw [burn_ok he hf, deep_ok rfl] at hz
        exact absurd hz (by show ¬ (2 : Int) = 0; decide) }
  | d + 1 =>
    { way := Way.cond (d + 1)
      enough := fun s he h => by
        have hf : ¬ s.fuel < 1 := by unfold overP at h; omega
        have hm := ((Rich.cond d).term.many orP).enough ⟨s.rest, s.fuel - 1, 0, s.used + 1⟩ rfl (by unfold overP at h ⊢; show 1 + (0 : Int) ≤ s.fuel - 1 - 2 * (s.rest.length : Int); omega)
        rw [condP, burn_ok he hf, if_pos rfl]
        exact ⟨hm.1, fun hz => by have := hm.2 hz; unfold overP at this ⊢; dsimp only at this ⊢; omega⟩ }
theorem Rich.of : Rich ofP 0 1 :=
  Rich.ite (fun k s s' h => is_sim h 1 classP) (((Rich.next 1 classP).bind (g := fun _ s => ((nextP 2 [] s).1.text, (nextP 2 [] s).2)) (q := 0) (b := 1) (fun _ => (Rich.next 2 []).map (·.text)) (by omega)).weak (by omega) (by omega)) ((Rich.next 1 defaultP).map fun _ => [])
theorem Rich.act : Rich actP 0 1 :=
  Rich.ite (fun k s s' h => is_sim h 1 destroyP) ((Rich.next 1 destroyP).map fun _ => 1) (Rich.ite (fun k s s' h => is_sim h 1 reviewP) ((Rich.next 1 reviewP).map fun _ => 2) ((Rich.next 1 keepP).map fun _ => 3))
theorem Rich.rule : Rich ruleP 0 1 :=
  (Rich.of.bind (g := fun (c : List UInt8) s => ((⟨c, (condP 8 (nextP 1 keepP s).2).1, (actP (nextP 1 thenP (condP 8 (nextP 1 keepP s).2).2).2).1⟩ : Rl 17), (nextP 6 [] (actP (nextP 1 thenP (condP 8 (nextP 1 keepP s).2).2).2).2).2)) (q := 0) (b := 1) (fun c =>
    ((Rich.next 1 keepP).bind (g := fun (_ : Tk) s => ((⟨c, (condP 8 s).1, (actP (nextP 1 thenP (condP 8 s).2).2).1⟩ : Rl 17), (nextP 6 [] (actP (nextP 1 thenP (condP 8 s).2).2).2).2)) (q := 1) (b := 1) (fun _ =>
      ((Rich.cond 8).bind (g := fun x s => ((⟨c, x, (actP (nextP 1 thenP s).2).1⟩ : Rl 17), (nextP 6 [] (actP (nextP 1 thenP s).2).2).2)) (q := 0) (b := 1) (fun x =>
        ((Rich.next 1 thenP).bind (g := fun (_ : Tk) s => ((⟨c, x, (actP s).1⟩ : Rl 17), (nextP 6 [] (actP s).2).2)) (q := 0) (b := 1) (fun _ =>
          (Rich.act.bind (g := fun (a : Int) s => ((⟨c, x, a⟩ : Rl 17), (nextP 6 [] s).2)) (q := 0) (b := 1) (fun a => (Rich.next 6 []).map fun _ => (⟨c, x, a⟩ : Rl 17)) (by omega)).weak (by omega) (by omega)) (by omega)).weak (by omega) (by omega)) (by omega)).weak (by omega) (by omega)) (by omega)).weak (by omega) (by omega)) (by omega)).weak (by omega) (by omega)
theorem Rich.rules : ∀ (g : Nat) (l : List (Rl 17)), Rich (rulesP g l) 0 0
  | 0, l => Rich.pure l 0
  | g + 1, l =>
    { way := Way.rules (g + 1) l
      enough := fun s he h => by
        have hr := (Rich.rule.bind (g := fun r s => rulesP g (l ++ [r]) s) (q := 0) (b := 0) (fun r => Rich.rules g (l ++ [r])) (by omega)).enough s he h
        rw [rulesP]
        by_cases hc : s.e = 0 ∧ s.rest ≠ []
        · rw [if_pos hc]
          exact ⟨hr.1, fun hz => by have := hr.2 hz; omega⟩
        · rw [if_neg hc]
          exact ⟨by show s.e ≠ 14; rw [he]; decide, fun _ => by show overP s + 0 ≤ overP s; omega⟩ }
theorem run_enough (L : List Tk) (n : Int) (h : 2 * (L.length : Int) + 1 ≤ n) : (runP L n).2.e ≠ 14 :=
  ((Rich.rules L.length []).enough ⟨L, n, 0, 0⟩ rfl (by unfold overP; show 1 + (0 : Int) ≤ n - 2 * (L.length : Int); omega)).1
end
end Go.Proofs.YthindhlogkhclaaGreatDoor
