/-
  TermO: There and back, plain mathematics: a term that may be is read of its own bytes, whatever stands behind. No program, no condition.
-/
import Derived.Test.YthgaljgelngmaaaDoorDv19

section
namespace Go.Proofs.YthgaljgelngmaaaDoor
set_option linter.unusedVariables false

/-- The same term, said at two depths. -/
def sim : (f g : Nat) → Tm f → Tm g → Prop
  | 0, _, t, _ => nomatch t
  | _ + 1, 0, _, t => nomatch t
  | f + 1, g + 1, (a : Nd (Tm f)), (b : Nd (Tm g)) => a.kind = b.kind ∧ a.n = b.n ∧ a.data = b.data ∧ a.kids.length = b.kids.length ∧ ∀ (i : Nat) (x : Tm f) (y : Tm g), a.kids[i]? = some x → b.kids[i]? = some y → sim f g x y

/-- Its numbers have 64 bits. -/
def nOk : (f : Nat) → Tm f → Prop
  | 0, t => nomatch t
  | f + 1, (t : Nd (Tm f)) => t.n < 18446744073709551616 ∧ ∀ u, u ∈ t.kids → nOk f u

theorem readL_of {α β : Type} {g : Option (List UInt8) → Option (List UInt8) × β} {B : α → List UInt8} {R : α → β → Prop} :
    ∀ (ks : List α) (rest : List UInt8), (∀ t, t ∈ ks → ∀ rest, ∃ u, g (some (B t ++ rest)) = (some rest, u) ∧ R t u) →
      ∃ us, readL g ks.length (some ((ks.map B).flatten ++ rest)) = (some rest, us) ∧ ks.length = us.length ∧ ∀ (i : Nat) (x : α) (y : β), ks[i]? = some x → us[i]? = some y → R x y
  | [], rest, h => ⟨[], by rw [List.length_nil, readL_zero]; rfl, rfl, fun i x y h => by simp at h⟩
  | t :: ks, rest, h => by
    obtain ⟨u, hu, hr⟩ := h t (by simp) ((ks.map B).flatten ++ rest)
    obtain ⟨us, h1, h2, h3⟩ := readL_of ks rest fun x hx => h x (by simp [hx])
    refine ⟨u :: us, ?_, by simp [h2], fun i x y hx hy => ?_⟩
    · rw [List.map_cons, List.flatten_cons, List.append_assoc, List.length_cons, readL_some, hu]
      dsimp only
      rw [h1]
    · cases i with
      | zero => simp at hx hy; subst hx hy; exact hr
      | succ i => exact h3 i x y (by simpa using hx) (by simpa using hy)

/-- A term that may be is read of its own bytes, whatever stands behind. -/
theorem put_get : ∀ (n f : Nat) (t : Tm f) (rest : List UInt8), mayT f t n = true → nOk f t → ∃ u : Nd (Tm n), readT n (some (bytesT f t ++ rest)) = (some rest, u) ∧ sim f (n + 1) t u
  | n, 0, t, _, _, _ => nomatch t
  | 0, f + 1, (t : Nd (Tm f)), rest, h, _ => by
    have h' : (decide (1 ≤ ((0 : Nat) : Int)) && ownOk t && (t.kids.all fun u => mayT f u (((0 : Nat) : Int) - 1)) && (decide (t.kind ≠ 5) || decide (kindAt f t.kids 1 = 2))) = true := h
    simp at h'
  | n + 1, f + 1, (⟨k, m, d, ks⟩ : Nd (Tm f)), rest, h, hn => by
    have h' : (decide (1 ≤ ((n + 1 : Nat) : Int)) && ownOk (⟨k, m, d, ks⟩ : Nd (Tm f)) && (ks.all fun u => mayT f u (((n + 1 : Nat) : Int) - 1)) && (decide (k ≠ 5) || decide (kindAt f ks 1 = 2))) = true := h
    simp only [Bool.and_eq_true, decide_eq_true_eq] at h'
    obtain ⟨⟨⟨_, h2⟩, h3⟩, _⟩ := h'
    rw [show ((n + 1 : Nat) : Int) - 1 = (n : Int) by omega] at h3
    obtain ⟨k0, k1, k2, k3, k4⟩ := (ownOk_iff k m d ks).1 h2
    obtain ⟨hm, hkn⟩ : m < 18446744073709551616 ∧ ∀ u, u ∈ ks → nOk f u := hn
    have hk : 1 ≤ k ∧ k ≤ 6 := by
      unfold kidsN at k0
      split at k0
      · omega
      · split at k0
        · omega
        · split at k0 <;> omega
    have hb : ((UInt8.ofNat (k % 256).toNat).toNat : Int) = k := by simp; omega
    obtain ⟨us, e3, hl, hs⟩ := readL_of (g := readT n) (B := bytesT f) (R := fun x y => sim f (n + 1) x y) ks rest fun x hx rest => put_get n f x rest (List.all_eq_true.1 h3 x hx) (hkn x hx)
    have e2 : readD k (some ((if k = 3 then texb d else []) ++ ((ks.map (bytesT f)).flatten ++ rest))) = (some ((ks.map (bytesT f)).flatten ++ rest), d) := by
      unfold readD
      by_cases h5 : k = 3
      · rw [if_pos h5, if_pos h5]; exact txt_read d _ k4
      · rw [if_neg h5, if_neg h5]
        have : d = [] := List.eq_nil_of_length_eq_zero (k3.resolve_left h5)
        rw [this]; rfl
    have e1 : ∀ X, readN k (some ((if numK k = true then numb m else []) ++ X)) = (some X, m) := by
      intro X
      unfold readN
      by_cases h5 : numK k = true
      · rw [if_pos h5, if_pos h5]; exact numOf_numb m X hm
      · rw [if_neg h5, if_neg h5, k2.resolve_left h5]; rfl
    refine ⟨⟨k, m, d, us⟩, ?_, rfl, rfl, rfl, hl, hs⟩
    have ebytes : bytesT (f + 1) (⟨k, m, d, ks⟩ : Nd (Tm f)) ++ rest = UInt8.ofNat (k % 256).toNat :: ((if numK k = true then numb m else []) ++ ((if k = 3 then texb d else []) ++ ((ks.map (bytesT f)).flatten ++ rest))) := by
      show (headB (⟨k, m, d, ks⟩ : Nd (Tm f)) ++ (ks.map (bytesT f)).flatten) ++ rest = _
      unfold headB
      simp only [List.cons_append, List.append_assoc]
    rw [ebytes, readT_good n _ _ (by rw [hb]; omega), hb, e1]
    dsimp only
    rw [e2]
    dsimp only
    rw [show (kidsN k).toNat = ks.length by omega, e3]

theorem sim_lift : ∀ (f g : Nat) (a : Tm f) (b : Tm g), sim f g a b → sim f (g + 1) a (lift g b)
  | 0, _, a, _, _ => nomatch a
  | _ + 1, 0, _, b, _ => nomatch b
  | f + 1, g + 1, (a : Nd (Tm f)), (b : Nd (Tm g)), h => by
    obtain ⟨h1, h2, h3, h4, h5⟩ := h
    refine ⟨h1, h2, h3, ?_, fun i x y hx hy => ?_⟩
    · show a.kids.length = (b.kids.map (lift g)).length
      rw [List.length_map, h4]
    · replace hy : (b.kids.map (lift g))[i]? = some y := hy
      rw [List.getElem?_map] at hy
      cases hq : b.kids[i]? with
      | none => rw [hq] at hy; cases hy
      | some z =>
        rw [hq] at hy
        simp only [Option.map_some, Option.some.injEq] at hy
        subst hy
        exact sim_lift f g x z (h5 i x z hx hq)

/-- The same term, said to be k deeper. -/
def up {g : Nat} (b : Tm g) : (k : Nat) → Tm (g + k)
  | 0 => b
  | k + 1 => lift (g + k) (up b k)
theorem sim_up {f g : Nat} {a : Tm f} {b : Tm g} (h : sim f g a b) : ∀ k, sim f (g + k) a (up b k)
  | 0 => h
  | k + 1 => sim_lift f (g + k) a (up b k) (sim_up h k)

theorem sim_eq : ∀ (f : Nat) (a b : Tm f), sim f f a b → a = b
  | 0, a, _, _ => nomatch a
  | f + 1, ⟨k, n, d, ks⟩, ⟨k', n', d', ks'⟩, h => by
    obtain ⟨h1, h2, h3, h4, h5⟩ := h
    dsimp only at h1 h2 h3 h4 h5
    subst h1 h2 h3
    have : ks = ks' := by
      apply List.ext_getElem h4
      intro i hi hi'
      exact sim_eq f _ _ (h5 i _ _ (List.getElem?_eq_getElem hi) (List.getElem?_eq_getElem hi'))
    rw [this]

theorem sim_kind : ∀ (f g : Nat) (ks : List (Tm f)) (ls : List (Tm g)) (i : Nat), ks.length = ls.length → (∀ (i : Nat) (x : Tm f) (y : Tm g), ks[i]? = some x → ls[i]? = some y → sim f g x y) → kindAt f ks i = kindAt g ls i
  | 0, g, ks, ls, i, hl, h => by
    cases ks with
    | nil =>
      obtain rfl : ls = [] := List.eq_nil_of_length_eq_zero (by simpa using hl.symm)
      cases g <;> rfl
    | cons x _ => exact nomatch x
  | f + 1, 0, ks, ls, i, hl, h => by
    cases ls with
    | nil =>
      obtain rfl : ks = [] := List.eq_nil_of_length_eq_zero (by simpa using hl)
      rfl
    | cons x _ => exact nomatch x
  | f + 1, g + 1, ks, ls, i, hl, h => by
    show (((ks : List (Nd (Tm f)))[i]?).map (·.kind)).getD 0 = (((ls : List (Nd (Tm g)))[i]?).map (·.kind)).getD 0
    cases hx : (ks : List (Nd (Tm f)))[i]? with
    | none =>
      have hy : (ls : List (Nd (Tm g)))[i]? = none := by
        apply List.getElem?_eq_none
        have := List.getElem?_eq_none_iff.1 hx
        exact hl ▸ this
      rw [hy]; rfl
    | some x =>
      have hi := (List.getElem?_eq_some_iff.1 hx).1
      have hy : (ls : List (Nd (Tm g)))[i]? = some ((ls : List (Nd (Tm g)))[i]'(hl ▸ hi)) := List.getElem?_eq_getElem _
      rw [hy]
      exact (h i x _ hx hy).1

theorem sim_may : ∀ (f g : Nat) (a : Tm f) (b : Tm g) (n : Int), sim f g a b → mayT f a n = mayT g b n
  | 0, _, a, _, _, _ => nomatch a
  | _ + 1, 0, _, b, _, _ => nomatch b
  | f + 1, g + 1, ⟨k, m, d, ks⟩, ⟨k', m', d', ks'⟩, n, h => by
    obtain ⟨h1, h2, h3, h4, h5⟩ := h
    dsimp only at h1 h2 h3 h4 h5
    subst h1 h2 h3
    have e1 : ownOk (⟨k, m, d, ks⟩ : Nd (Tm f)) = ownOk (⟨k, m, d, ks'⟩ : Nd (Tm g)) := by simp only [ownOk, h4]
    have e2 := sim_kind f g ks ks' 1 h4 h5
    have e3 : (ks.all fun u => mayT f u (n - 1)) = (ks'.all fun u => mayT g u (n - 1)) := by
      rw [Bool.eq_iff_iff, List.all_eq_true, List.all_eq_true]
      constructor
      · intro hx y hy
        obtain ⟨i, hi, e⟩ := List.mem_iff_getElem.1 hy
        have hi' : i < ks.length := by omega
        have := sim_may f g ks[i] y (n - 1) (h5 i _ _ (List.getElem?_eq_getElem hi') (by rw [List.getElem?_eq_getElem hi, e]))
        rw [← this]
        exact hx _ (List.getElem_mem hi')
      · intro hx y hy
        obtain ⟨i, hi, e⟩ := List.mem_iff_getElem.1 hy
        have hi' : i < ks'.length := by omega
        have := sim_may f g y ks'[i] (n - 1) (h5 i _ _ (by rw [List.getElem?_eq_getElem hi, e]) (List.getElem?_eq_getElem hi'))
        rw [this]
        exact hx _ (List.getElem_mem hi')
    show (decide (1 ≤ n) && ownOk (⟨k, m, d, ks⟩ : Nd (Tm f)) && (ks.all fun u => mayT f u (n - 1)) && (decide (k ≠ 5) || decide (kindAt f ks 1 = 2))) = (decide (1 ≤ n) && ownOk (⟨k, m, d, ks'⟩ : Nd (Tm g)) && (ks'.all fun u => mayT g u (n - 1)) && (decide (k ≠ 5) || decide (kindAt g ks' 1 = 2)))
    rw [e1, e2, e3]

theorem TM.nOk {w : World} {S : Nat → Prop} : ∀ (f : Nat) (t : Tm f) (c0 c1 c2 c3 : Value), TM w S f t c0 c1 c2 c3 → nOk f t
  | 0, t, _, _, _, _, _ => nomatch t
  | f + 1, (t : Nd (Tm f)), c0, c1, c2, c3, h => by
    obtain ⟨_, _, _, h3, _, A, c, _, _, _, _, hx⟩ := h
    refine ⟨h3, fun u hu => ?_⟩
    obtain ⟨i, hi, e⟩ := List.mem_iff_getElem.1 hu
    obtain ⟨b, o, _, _, _, hx⟩ := hx (by omega)
    obtain ⟨d0, d1, d2, d3, _, _, _, _, ht⟩ := hx i u (by rw [List.getElem?_eq_getElem hi, e])
    exact TM.nOk f u d0 d1 d2 d3 ht
end Go.Proofs.YthgaljgelngmaaaDoor
end
