/-
  There and back, plain mathematics: what was read has the bytes that it was read of; a term that may be is read of its own bytes, whatever stands behind. No program, no condition.
-/
import Derived.Test.YtmepcdljobdigaaDoorTermL
namespace Go.Proofs.YtmepcdljobdigaaDoor
set_option linter.unusedVariables false

theorem txt_bytes {l l' d : List UInt8} (h : txtOf 100 (some l) = (some l', d)) : texb d ++ l' = l := by
  unfold txtOf at h
  cases hc : cntOf 100 (some l) with
  | mk st n =>
    rw [hc] at h
    cases st with
    | none =>
      simp only [passed] at h
      split at h
      · cases h
      · cases h
    | some m =>
      have hn : numOf (some l) = (some m, n) := by
        unfold cntOf at hc
        split at hc
        · cases hc
        · exact hc
      simp only [passed, Option.getD_some, Option.map_some] at h
      split at h
      · cases h
      · rename_i hx
        injection h with h1 h2
        injection h1 with h1
        have hl := numb_numOf l m n hn
        have hlen : d.length = n := by rw [← h2, List.length_take]; omega
        rw [← hl, texb, hlen, List.append_assoc, ← h2, ← h1, Int.toNat_natCast, List.take_append_drop]

theorem txt_read (d l : List UInt8) (h : d.length ≤ 100) : txtOf 100 (some (texb d ++ l)) = (some l, d) := by
  have hn : numOf (some (texb d ++ l)) = (some (d ++ l), d.length) := by
    rw [texb, List.append_assoc]; exact numOf_numb _ _ (by omega)
  have hc : cntOf 100 (some (texb d ++ l)) = (some (d ++ l), d.length) := by
    unfold cntOf
    rw [hn, if_neg (by simp; omega)]
  unfold txtOf
  rw [hc]
  simp only [passed, Option.getD_some, Option.map_some]
  rw [if_neg (by simp; omega)]
  simp

theorem readL_bytes {α : Type} {g : Option (List UInt8) → Option (List UInt8) × α} {B : α → List UInt8} (h : ∀ l l' u, g (some l) = (some l', u) → B u ++ l' = l) :
    ∀ (n : Nat) (l l' : List UInt8) (ks : List α), readL g n (some l) = (some l', ks) → (ks.map B).flatten ++ l' = l
  | 0, l, l', ks, e => by
    rw [readL_zero] at e
    injection e with e1 e2
    injection e1 with e1
    subst e1 e2; rfl
  | n + 1, l, l', ks, e => by
    rw [readL_some] at e
    cases hg : g (some l) with
    | mk st u =>
      rw [hg] at e
      cases st with
      | none => rw [readL_none] at e; injection e with e1 _; cases e1
      | some m =>
        cases hr : readL g n (some m) with
        | mk st2 us =>
          simp only [hr] at e
          injection e with e1 e2
          subst e1 e2
          have := readL_bytes h n m l' us hr
          rw [List.map_cons, List.flatten_cons, List.append_assoc, this]
          exact h l m u hg

/-- What was read has the bytes that it was read of. -/
theorem get_put : ∀ (n : Nat) (l l' : List UInt8) (u : Nd (Tm n)), readT n (some l) = (some l', u) → bytesT (n + 1) u ++ l' = l
  | 0, l, l', u, h => by rw [readT_zero] at h; injection h with h1 _; cases h1
  | n + 1, [], l', u, h => by rw [readT_nil] at h; injection h with h1 _; cases h1
  | n + 1, b :: l, l', u, h => by
    by_cases hb : kidsN (b.toNat : Int) < 0
    · rw [readT_bad n b l hb] at h; injection h with h1 _; cases h1
    rw [readT_good n b l hb] at h
    injection h with h1 h2
    subst h2
    cases e1 : readN (b.toNat : Int) (some l) with
    | mk s1 n1 =>
      try rw [e1] at h1
      dsimp only at h1 ⊢
      cases e2 : readD (b.toNat : Int) s1 with
      | mk s2 dat =>
        try rw [e2] at h1
        dsimp only at h1 ⊢
        cases e3 : readL (readT n) (kidsN (b.toNat : Int)).toNat s2 with
        | mk s3 ks =>
          try rw [e3] at h1
          dsimp only at h1 ⊢
          subst h1
          cases s2 with
          | none => rw [readL_none] at e3; injection e3 with e _; cases e
          | some m2 =>
            have k3 := readL_bytes (B := bytesT (n + 1)) (fun l l' u h => get_put n l l' u h) _ m2 l' ks e3
            have k2 : ∃ m1, s1 = some m1 ∧ (if (b.toNat : Int) = 3 then texb dat else []) ++ m2 = m1 := by
              unfold readD at e2
              split at e2
              · rename_i h3
                rw [if_pos h3]
                cases s1 with
                | none => exact absurd e2 (by simp [txtOf, cntOf, numOf, passed])
                | some m1 => exact ⟨m1, rfl, txt_bytes e2⟩
              · rename_i h3
                rw [if_neg h3]
                injection e2 with e _
                exact ⟨m2, e, rfl⟩
            obtain ⟨m1, rfl, k2⟩ := k2
            have k1 : (if numK (b.toNat : Int) = true then numb n1 else []) ++ m1 = l := by
              unfold readN at e1
              split at e1
              · rename_i h3
                rw [if_pos h3]
                exact numb_numOf l m1 n1 e1
              · rename_i h3
                rw [if_neg h3]
                injection e1 with e _
                injection e with e
                exact e.symm
            have hb2 : UInt8.ofNat ((b.toNat : Int) % 256).toNat = b := by
              have hu := b.toNat_lt
              apply UInt8.toNat_inj.1
              simp; omega
            show (headB _ ++ (ks.map (bytesT (n + 1))).flatten) ++ l' = b :: l
            unfold headB
            simp only [hb2, List.cons_append, List.append_assoc]
            rw [k3, k2, k1]
end Go.Proofs.YtmepcdljobdigaaDoor
