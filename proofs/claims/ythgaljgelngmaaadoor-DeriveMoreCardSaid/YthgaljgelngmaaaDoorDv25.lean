/-
  TpM: The program's way of reading a term comes to the document's: plain mathematics, there and back. No program, no condition.
-/
import Derived.Test.YthgaljgelngmaaaDoorDv24
import Derived.Test.YthgaljgelngmaaaDoorDv20

section
namespace Go.Proofs.YthgaljgelngmaaaDoor
open Go.RowKit
set_option linter.unusedVariables false

theorem readBy_cons {d : Nat} (g : Option (List UInt8) → Option (List UInt8) × Tm (d + 1)) (b : UInt8) (l : List UInt8) : readBy g (some (b :: l)) =
    ((readK g (kidsP (b.toNat : Int)).toNat (readD (b.toNat : Int) (readN (b.toNat : Int) (some l)).1).1).1, ⟨(b.toNat : Int), (readN (b.toNat : Int) (some l)).2, (readD (b.toNat : Int) (readN (b.toNat : Int) (some l)).1).2, (readK g (kidsP (b.toNat : Int)).toNat (readD (b.toNat : Int) (readN (b.toNat : Int) (some l)).1).1).2⟩) := by
  unfold readBy
  rw [passed_cons]
  rfl
theorem readP_cons (n : Nat) (b : UInt8) (l : List UInt8) : readP (n + 1) (some (b :: l)) =
    ((readK (readP n) (kidsP (b.toNat : Int)).toNat (readD (b.toNat : Int) (readN (b.toNat : Int) (some l)).1).1).1, ⟨(b.toNat : Int), (readN (b.toNat : Int) (some l)).2, (readD (b.toNat : Int) (readN (b.toNat : Int) (some l)).1).2, (readK (readP n) (kidsP (b.toNat : Int)).toNat (readD (b.toNat : Int) (readN (b.toNat : Int) (some l)).1).1).2⟩) := readBy_cons (readP n) b l
theorem readP_none (d : Nat) : (readP d none).1 = none := by cases d <;> rfl
theorem readP_nil (d : Nat) : (readP d (some [])).1 = none := by cases d <;> rfl
theorem readK_none {α : Type} {g : Option (List UInt8) → Option (List UInt8) × α} (h : (g none).1 = none) : ∀ n, (readK g n none).1 = none
  | 0 => rfl
  | n + 1 => by rw [readK]; dsimp only; rw [h]; exact readK_none h n

theorem readK_bytes {α : Type} {g : Option (List UInt8) → Option (List UInt8) × α} {B : α → List UInt8} {m : Nat} (hn : (g none).1 = none) (hle : ∀ st, ((g st).1.getD []).length ≤ (st.getD []).length)
    (h : ∀ l l' u, l.length ≤ m → g (some l) = (some l', u) → B u ++ l' = l) :
    ∀ (n : Nat) (l l' : List UInt8) (ks : List α), l.length ≤ m → readK g n (some l) = (some l', ks) → (ks.map B).flatten ++ l' = l
  | 0, l, l', ks, _, e => by
    rw [readK] at e
    injection e with e1 e2
    injection e1 with e1
    subst e1 e2; rfl
  | n + 1, l, l', ks, hl, e => by
    rw [readK] at e
    cases hg : g (some l) with
    | mk st u =>
      rw [hg] at e
      cases st with
      | none =>
        injection e with e1 _
        have := readK_none hn n
        dsimp only at e1
        rw [this] at e1; cases e1
      | some x =>
        cases hr : readK g n (some x) with
        | mk st2 us =>
          simp only [hr] at e
          injection e with e1 e2
          subst e1 e2
          have hx := hle (some l)
          rw [hg] at hx
          simp only [Option.getD_some] at hx
          have := readK_bytes hn hle h n x l' us (by omega) hr
          rw [List.map_cons, List.flatten_cons, List.append_assoc, this]
          exact h l x u hl hg

/-- What was read has the bytes that it was read of. -/
theorem get_putP : ∀ (n : Nat) (l l' : List UInt8) (u : Nd (Tm (n + 1))), l.length ≤ n → readP n (some l) = (some l', u) → bytesT (n + 2) u ++ l' = l
  | n, [], l', u, _, h => by
    have := readP_nil n
    rw [h] at this; cases this
  | 0, b :: l, l', u, hl, h => by simp at hl
  | n + 1, b :: l, l', u, hl, h => by
    have hl' : l.length ≤ n := by simpa using hl
    rw [readP_cons] at h
    injection h with h1 h2
    subst h2
    cases e1 : readN (b.toNat : Int) (some l) with
    | mk s1 n1 =>
      try rw [e1] at h1
      dsimp only at h1 ⊢
      cases e2 : readD (b.toNat : Int) s1 with
      | mk s2 dat =>
        try rw [e2] at h1
        dsimp only at h1 ⊢
        cases e3 : readK (readP n) (kidsP (b.toNat : Int)).toNat s2 with
        | mk s3 ks =>
          try rw [e3] at h1
          dsimp only at h1 ⊢
          subst h1
          cases s2 with
          | none =>
            have := readK_none (readP_none n) (kidsP (b.toNat : Int)).toNat
            rw [e3] at this; cases this
          | some m2 =>
            have k2 : ∃ m1, s1 = some m1 ∧ (if (b.toNat : Int) = 3 then texb dat else []) ++ m2 = m1 := by
              unfold readD at e2
              split at e2
              · rename_i h3
                rw [if_pos h3]
                cases s1 with
                | none => exact absurd e2 (by simp [txtOf, cntOf, numOf, passed])
                | some m1 => exact ⟨m1, rfl, txt_bytes e2⟩
              · rename_i h3
                rw [if_neg h3]
                injection e2 with e _
                exact ⟨m2, e, rfl⟩
            obtain ⟨m1, rfl, k2⟩ := k2
            have k1 : (if numK (b.toNat : Int) = true then numb n1 else []) ++ m1 = l := by
              unfold readN at e1
              split at e1
              · rename_i h3
                rw [if_pos h3]
                exact numb_numOf l m1 n1 e1
              · rename_i h3
                rw [if_neg h3]
                injection e1 with e _
                injection e with e
                exact e.symm
            have hm : m2.length ≤ n := by
              have a1 := congrArg List.length k1
              have a2 := congrArg List.length k2
              rw [List.length_append] at a1 a2
              omega
            have k3 := readK_bytes (B := bytesT (n + 2)) (readP_none n) (readP_le n) (fun l l' u hl h => get_putP n l l' u hl h) _ m2 l' ks hm e3
            have hb2 : UInt8.ofNat ((b.toNat : Int) % 256).toNat = b := by
              have hu := b.toNat_lt
              apply UInt8.toNat_inj.1
              simp; omega
            show (headB _ ++ (ks.map (bytesT (n + 2))).flatten) ++ l' = b :: l
            unfold headB
            simp only [hb2, List.cons_append, List.append_assoc]
            rw [k3, k2, k1]

theorem readK_of {α β : Type} {g : Option (List UInt8) → Option (List UInt8) × β} {B : α → List UInt8} {R : α → β → Prop} {m : Nat} :
    ∀ (ks : List α) (rest : List UInt8), ((ks.map B).flatten ++ rest).length ≤ m → (∀ t, t ∈ ks → ∀ rest, (B t ++ rest).length ≤ m → ∃ u, g (some (B t ++ rest)) = (some rest, u) ∧ R t u) →
      ∃ us, readK g ks.length (some ((ks.map B).flatten ++ rest)) = (some rest, us) ∧ ks.length = us.length ∧ ∀ (i : Nat) (x : α) (y : β), ks[i]? = some x → us[i]? = some y → R x y
  | [], rest, _, h => ⟨[], rfl, rfl, fun i x y h => by simp at h⟩
  | t :: ks, rest, hm, h => by
    rw [List.map_cons, List.flatten_cons, List.append_assoc] at hm
    obtain ⟨u, hu, hr⟩ := h t (by simp) ((ks.map B).flatten ++ rest) hm
    obtain ⟨us, h1, h2, h3⟩ := readK_of ks rest (by rw [List.length_append] at hm; omega) fun x hx => h x (by simp [hx])
    refine ⟨u :: us, ?_, by simp [h2], fun i x y hx hy => ?_⟩
    · rw [List.map_cons, List.flatten_cons, List.append_assoc, List.length_cons, readK, hu]
      dsimp only
      rw [h1]
    · cases i with
      | zero => simp at hx hy; subst hx hy; exact hr
      | succ i => exact h3 i x y (by simpa using hx) (by simpa using hy)

/-- A term that may be is read of its own bytes, whatever stands behind. -/
theorem put_getP : ∀ (n f : Nat) (t : Tm f) (deep : Int) (rest : List UInt8), mayT f t deep = true → nOk f t → (bytesT f t ++ rest).length ≤ n → ∃ u : Nd (Tm (n + 1)), readP n (some (bytesT f t ++ rest)) = (some rest, u) ∧ sim f (n + 2) t u
  | n, 0, t, _, _, _, _, _ => nomatch t
  | 0, f + 1, (⟨k, m, d, ks⟩ : Nd (Tm f)), deep, rest, h, _, hl => by
    have : bytesT (f + 1) (⟨k, m, d, ks⟩ : Nd (Tm f)) = headB (⟨k, m, d, ks⟩ : Nd (Tm f)) ++ (ks.map (bytesT f)).flatten := rfl
    rw [this] at hl
    simp [headB] at hl
  | n + 1, f + 1, (⟨k, m, d, ks⟩ : Nd (Tm f)), deep, rest, h, hn, hl => by
    have h' : (decide (1 ≤ deep) && ownOk (⟨k, m, d, ks⟩ : Nd (Tm f)) && (ks.all fun u => mayT f u (deep - 1)) && (decide (k ≠ 5) || decide (kindAt f ks 1 = 2))) = true := h
    simp only [Bool.and_eq_true, decide_eq_true_eq] at h'
    obtain ⟨⟨⟨_, h2⟩, h3⟩, _⟩ := h'
    obtain ⟨k0, k1, k2, k3, k4⟩ := (ownOk_iff k m d ks).1 h2
    obtain ⟨hm, hkn⟩ : m < 18446744073709551616 ∧ ∀ u, u ∈ ks → nOk f u := hn
    have hk : 1 ≤ k ∧ k ≤ 6 := by
      unfold kidsN at k0
      split at k0
      · omega
      · split at k0
        · omega
        · split at k0 <;> omega
    have hb : ((UInt8.ofNat (k % 256).toNat).toNat : Int) = k := by simp; omega
    have ebytes : bytesT (f + 1) (⟨k, m, d, ks⟩ : Nd (Tm f)) ++ rest = UInt8.ofNat (k % 256).toNat :: ((if numK k = true then numb m else []) ++ ((if k = 3 then texb d else []) ++ ((ks.map (bytesT f)).flatten ++ rest))) := by
      show (headB (⟨k, m, d, ks⟩ : Nd (Tm f)) ++ (ks.map (bytesT f)).flatten) ++ rest = _
      unfold headB
      simp only [List.cons_append, List.append_assoc]
    rw [ebytes] at hl ⊢
    have hl2 : ((ks.map (bytesT f)).flatten ++ rest).length ≤ n := by
      rw [List.length_cons, List.length_append, List.length_append] at hl
      omega
    obtain ⟨us, e3, hlu, hs⟩ := readK_of (g := readP n) (B := bytesT f) (R := fun x y => sim f (n + 2) x y) (m := n) ks rest hl2 fun x hx rest hr => put_getP n f x (deep - 1) rest (List.all_eq_true.1 h3 x hx) (hkn x hx) hr
    have e2 : readD k (some ((if k = 3 then texb d else []) ++ ((ks.map (bytesT f)).flatten ++ rest))) = (some ((ks.map (bytesT f)).flatten ++ rest), d) := by
      unfold readD
      by_cases h5 : k = 3
      · rw [if_pos h5, if_pos h5]; exact txt_read d _ k4
      · rw [if_neg h5, if_neg h5]
        have : d = [] := List.eq_nil_of_length_eq_zero (k3.resolve_left h5)
        rw [this]; rfl
    have e1 : ∀ X, readN k (some ((if numK k = true then numb m else []) ++ X)) = (some X, m) := by
      intro X
      unfold readN
      by_cases h5 : numK k = true
      · rw [if_pos h5, if_pos h5]; exact numOf_numb m X hm
      · rw [if_neg h5, if_neg h5, k2.resolve_left h5]; rfl
    refine ⟨⟨k, m, d, us⟩, ?_, rfl, rfl, rfl, hlu, hs⟩
    rw [readP_cons, hb, e1]
    dsimp only
    rw [e2]
    dsimp only
    have hkp : (kidsP k).toNat = ks.length := by unfold kidsP; rw [if_neg (by omega)]; omega
    rw [hkp, e3]

theorem readL_all {α : Type} {g : Option (List UInt8) → Option (List UInt8) × α} {P : α → Prop} (h : ∀ st, P (g st).2) : ∀ (n : Nat) (st : Option (List UInt8)), ∀ u ∈ (readL g n st).2, P u
  | 0, st, u, hu => by rw [readL_zero] at hu; cases hu
  | n + 1, none, u, hu => by rw [readL_none] at hu; cases hu
  | n + 1, some l, u, hu => by
    rw [readL_some] at hu
    rcases List.mem_cons.1 hu with rfl | hu
    · exact h _
    · exact readL_all h n _ u hu

theorem nOk_zero (f : Nat) : nOk (f + 1) (zeroN : Nd (Tm f)) := ⟨by simp [zeroN], fun u h => by simp [zeroN] at h⟩

theorem readT_nOk : ∀ (d : Nat) (st : Option (List UInt8)), nOk (d + 1) (readT d st).2
  | 0, st => by rw [readT_zero]; exact nOk_zero 0
  | d + 1, none => by rw [readT_none]; exact nOk_zero _
  | d + 1, some [] => by rw [readT_nil]; exact nOk_zero _
  | d + 1, some (b :: l) => by
    by_cases hb : kidsN (b.toNat : Int) < 0
    · rw [readT_bad d b l hb]; exact nOk_zero _
    · rw [readT_good d b l hb]
      refine ⟨?_, fun u hu => ?_⟩
      · show (readN (b.toNat : Int) (some l)).2 < _
        unfold readN
        split
        · exact numOf_lt _
        · omega
      · exact readL_all (P := fun u => nOk (d + 1) u) (fun st => readT_nOk d st) _ _ u hu

/-- What the program reads, and what the document reads, come to the same. -/
theorem get_same (b l : List UInt8) (t : Nd (Tm 401)) (h : readP 400 (some (b.take 400)) = (some l, t)) (hm : mayT 402 t 8 = true) (hn : nOk 402 t) :
    ∃ u : Nd (Tm 8), getOf b = (u, ((b.take 400).length : Int) - l.length, 0) ∧ sim 402 9 t u := by
  have hb := get_putP 400 _ l t (by rw [List.length_take]; omega) h
  obtain ⟨u, h1, h2⟩ := put_get 8 402 t l hm hn
  rw [hb] at h1
  refine ⟨u, ?_, h2⟩
  have h3 : mayT 9 u 8 = true := by rw [← sim_may 402 9 t u 8 h2]; exact hm
  unfold getOf
  rw [h1]
  dsimp only
  rw [if_pos h3]

theorem get_none (b : List UInt8) (st : Option (List UInt8)) (t : Nd (Tm 401)) (h : readP 400 (some (b.take 400)) = (st, t)) (hm : st = none ∨ mayT 402 t 8 = false) : getOf b = (zeroN, 0, 2) := by
  unfold getOf
  cases e : readT 8 (some (b.take 400)) with
  | mk s u =>
    dsimp only
    cases s with
    | none => rfl
    | some l =>
      dsimp only
      cases h3 : mayT 9 u 8 with
      | false => rw [if_neg Bool.false_ne_true]
      | true =>
        exfalso
        have hb := get_put 8 _ l u e
        have hn : nOk 9 u := by have := readT_nOk 8 (some (b.take 400)); rw [e] at this; exact this
        obtain ⟨v, h1, h2⟩ := put_getP 400 9 u 8 l h3 hn (by rw [hb, List.length_take]; omega)
        rw [hb, h] at h1
        injection h1 with h4 h5
        subst h5
        rcases hm with hm | hm
        · rw [hm] at h4; cases h4
        · rw [← sim_may 9 402 u t 8 h2, h3] at hm; cases hm

/-- The same cells read as the same term, said at two depths. -/
theorem TM.sim {w : World} {S : Nat → Prop} : ∀ (f g : Nat) (a : Tm f) (b : Tm g) (c0 c1 c2 c3 : Value), sim f g a b → TM w S f a c0 c1 c2 c3 → TM w S g b c0 c1 c2 c3
  | 0, _, a, _, _, _, _, _, _, _ => nomatch a
  | _ + 1, 0, _, b, _, _, _, _, _, _ => nomatch b
  | f + 1, g + 1, ⟨k, n, d, ks⟩, ⟨k', n', d', ks'⟩, c0, c1, c2, c3, hs, h => by
    obtain ⟨h1, h2, h3, h4, h5⟩ := hs
    dsimp only at h1 h2 h3 h4 h5
    subst h1 h2 h3
    obtain ⟨a0, a1, a2, a3, a4, A, c, e, hl, hc, hn, hx⟩ := h
    dsimp only at a0 a1 a2 a3 a4 e hl hx
    refine ⟨a0, a1, a2, a3, a4, A, c, by rw [e, h4], by show ks'.length ≤ c; omega, hc, hn, fun h0 => ?_⟩
    obtain ⟨b, o, ea, sb, hb, hx⟩ := hx (by rw [h4]; exact h0)
    refine ⟨b, o, ea, sb, hb, fun i t hi => ?_⟩
    have hil := (List.getElem?_eq_some_iff.1 hi).1
    have hil' : i < ks.length := by rw [h4]; exact hil
    obtain ⟨d0, d1, d2, d3, k0, k1, k2, k3, ht⟩ := hx i ks[i] (List.getElem?_eq_getElem hil')
    exact ⟨d0, d1, d2, d3, k0, k1, k2, k3, TM.sim f g ks[i] t d0 d1 d2 d3 (h5 i _ _ (List.getElem?_eq_getElem hil') hi) ht⟩
end Go.Proofs.YthgaljgelngmaaaDoor
end
