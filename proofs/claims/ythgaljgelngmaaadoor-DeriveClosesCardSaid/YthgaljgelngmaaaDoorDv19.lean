/-
  TpE: What stands ahead of a part's kids' bytes, by the program: its contract over the loaded program. No condition but what it names.
  TpF: A term's bytes, by the program: its contract over the loaded program. No condition but what it names.
  TermP: There and back, plain mathematics: what was read has the bytes that it was read of; a term that may be is read of its own bytes, whatever stands behind. No program, no condition.
-/
import Derived.Test.YthgaljgelngmaaaDoorDv15
import Derived.Test.YthgaljgelngmaaaDoorDv17
import Derived.Test.YthgaljgelngmaaaDoorDv16
import Derived.Deep.RegionLaw

section
namespace Go.Proofs.YthgaljgelngmaaaDoor
open Go.RowKit
set_option linter.unusedVariables false
end Go.Proofs.YthgaljgelngmaaaDoor
end

section
namespace Go.Proofs.YthgaljgelngmaaaDoor
open Go.RowKit
set_option linter.unusedVariables false

/-- The variable at gb holds the bytes s, in a row of the call's own; neither is among the blocks of which P holds. -/
def IP (gb B : Nat) (P : Nat → Prop) (w : World) (s : List UInt8) : Prop :=
  ¬ P gb ∧ gb < B ∧ B ≤ w.heap.size ∧ ∃ v, KB w gb 33 #[v] ∧ w.ownsRow B 5 1 v s.length (s.map bv) ∧ ∀ k, v.ownBlock = some k → ¬ P k

theorem IP.alloc {gb B : Nat} {P : Nat → Prop} {w : World} {s : List UInt8} (h : IP gb B P w s) (o : Obj) : IP gb B (fun b => P b ∨ b = w.heap.size) (w.alloc o) s := by
  obtain ⟨h1, h2, h3, v, h4, h5, h6⟩ := h
  refine ⟨?_, h2, by simp; omega, v, h4.alloc o, own_past ((Below.refl _ _).alloc (Nat.le_refl _) o) h5, fun k hk => ?_⟩
  · rintro (h | h)
    · exact h1 h
    · omega
  · rintro (h | h)
    · exact h6 k hk h
    · have := own_lt h5 k hk; omega
theorem IP.mono {gb B : Nat} {P Q : Nat → Prop} {w : World} {s : List UInt8} (h : IP gb B P w s) (hq : ∀ b, Q b → P b) : IP gb B Q w s := by
  obtain ⟨h1, h2, h3, v, h4, h5, h6⟩ := h
  exact ⟨fun h => h1 (hq _ h), h2, h3, v, h4, h5, fun k hk h => h6 k hk (hq _ h)⟩

/-- Behind the append and the store. -/
theorem IP.put {gb B : Nat} {P : Nat → Prop} {w w5 w7 : World} {s M : List UInt8} {vb v7 : Value} (hP : ∀ b, P b → b < w.heap.size) (hPg : ¬ P gb) (hgB : gb < B) (hB : B ≤ w.heap.size) (hPo : ∀ k, vb.ownBlock = some k → ¬ P k)
    (B5 : Below w.heap.size w w5) (kg7 : KB w7 gb 33 #[vb]) (how7 : w7.ownsRow B 5 1 v7 (s ++ M).length ((s ++ M).map bv)) (hg7 : w5.grownBy w7 vb.ownBlock) (h7 : v7.ownBlock = vb.ownBlock ∨ v7.ownBlock = some w5.heap.size) :
    IP gb B P (w7.setCell ⟨gb, 0, none⟩ v7) (s ++ M) ∧ KeepP P w (w7.setCell ⟨gb, 0, none⟩ v7) := by
  have hs8 : (w7.setCell ⟨gb, 0, none⟩ v7).heap.size = w7.heap.size := by simp [World.setCell]
  have h5 := B5.size
  have h75 := hg7.size
  refine ⟨⟨hPg, hgB, by rw [hs8]; omega, v7, kg7.put 0 v7, own_grown how7 (grown_set w7 gb 0 v7) hgB, fun k hk => ?_⟩, ?_⟩
  · rcases h7 with h7 | h7
    · exact hPo k (h7 ▸ hk)
    · rw [h7] at hk
      injection hk with hk
      intro hp
      have := hP k hp
      omega
  · refine ⟨hg7.os.trans B5.os, hg7.tape.trans B5.tape, hg7.output.trans B5.output, by rw [hs8]; omega, fun b hb => ?_⟩
    have hbw := hP b hb
    rw [Below.heap_setCell w7 ⟨gb, 0, none⟩ v7 b (fun e => hPg (by rw [← show b = gb from e]; exact hb)), hg7.block b (by omega) (fun e => hPo b e.symm hb), B5.block b hbw]

theorem nxtB_bytes : ∀ (f : Nat) (t : Tm f) (s : List UInt8), nxtT (fun _ t s => s ++ headB t) f t s = s ++ bytesT f t
  | 0, t, _ => nomatch t
  | f + 1, (t : Nd (Tm f)), s => by
    have h : ∀ (ks : List (Tm f)) (s : List UInt8), ks.foldl (fun s u => nxtT (fun _ t s => s ++ headB t) f u s) s = s ++ (ks.map (bytesT f)).flatten := by
      intro ks
      induction ks with
      | nil => intro s; simp
      | cons k ks ih =>
        intro s
        rw [List.foldl_cons, ih, nxtB_bytes f k s]
        simp
    show t.kids.foldl (fun s u => nxtT (fun _ t s => s ++ headB t) f u s) (s ++ headB t) = s ++ (headB t ++ (t.kids.map (bytesT f)).flatten)
    rw [h, List.append_assoc]

theorem okT_true : ∀ (f : Nat) (t : Tm f) (d : Int), okT (fun _ _ _ => true) f t d = true
  | 0, t, _ => nomatch t
  | f + 1, (t : Nd (Tm f)), d => by
    show (true && t.kids.all fun u => okT (fun _ _ _ => true) f u (deeper d)) = true
    rw [Bool.true_and, List.all_eq_true]
    exact fun u _ => okT_true f u (deeper d)

end Go.Proofs.YthgaljgelngmaaaDoor
end

section
namespace Go.Proofs.YthgaljgelngmaaaDoor
set_option linter.unusedVariables false

theorem txt_bytes {l l' d : List UInt8} (h : txtOf 100 (some l) = (some l', d)) : texb d ++ l' = l := by
  unfold txtOf at h
  cases hc : cntOf 100 (some l) with
  | mk st n =>
    rw [hc] at h
    cases st with
    | none =>
      simp only [passed] at h
      split at h
      · cases h
      · cases h
    | some m =>
      have hn : numOf (some l) = (some m, n) := by
        unfold cntOf at hc
        split at hc
        · cases hc
        · exact hc
      simp only [passed, Option.getD_some, Option.map_some] at h
      split at h
      · cases h
      · rename_i hx
        injection h with h1 h2
        injection h1 with h1
        have hl := numb_numOf l m n hn
        have hlen : d.length = n := by rw [← h2, List.length_take]; omega
        rw [← hl, texb, hlen, List.append_assoc, ← h2, ← h1, Int.toNat_natCast, List.take_append_drop]

theorem txt_read (d l : List UInt8) (h : d.length ≤ 100) : txtOf 100 (some (texb d ++ l)) = (some l, d) := by
  have hn : numOf (some (texb d ++ l)) = (some (d ++ l), d.length) := by
    rw [texb, List.append_assoc]; exact numOf_numb _ _ (by omega)
  have hc : cntOf 100 (some (texb d ++ l)) = (some (d ++ l), d.length) := by
    unfold cntOf
    rw [hn, if_neg (by simp; omega)]
  unfold txtOf
  rw [hc]
  simp only [passed, Option.getD_some, Option.map_some]
  rw [if_neg (by simp; omega)]
  simp

theorem readL_bytes {α : Type} {g : Option (List UInt8) → Option (List UInt8) × α} {B : α → List UInt8} (h : ∀ l l' u, g (some l) = (some l', u) → B u ++ l' = l) :
    ∀ (n : Nat) (l l' : List UInt8) (ks : List α), readL g n (some l) = (some l', ks) → (ks.map B).flatten ++ l' = l
  | 0, l, l', ks, e => by
    rw [readL_zero] at e
    injection e with e1 e2
    injection e1 with e1
    subst e1 e2; rfl
  | n + 1, l, l', ks, e => by
    rw [readL_some] at e
    cases hg : g (some l) with
    | mk st u =>
      rw [hg] at e
      cases st with
      | none => rw [readL_none] at e; injection e with e1 _; cases e1
      | some m =>
        cases hr : readL g n (some m) with
        | mk st2 us =>
          simp only [hr] at e
          injection e with e1 e2
          subst e1 e2
          have := readL_bytes h n m l' us hr
          rw [List.map_cons, List.flatten_cons, List.append_assoc, this]
          exact h l m u hg

/-- What was read has the bytes that it was read of. -/
theorem get_put : ∀ (n : Nat) (l l' : List UInt8) (u : Nd (Tm n)), readT n (some l) = (some l', u) → bytesT (n + 1) u ++ l' = l
  | 0, l, l', u, h => by rw [readT_zero] at h; injection h with h1 _; cases h1
  | n + 1, [], l', u, h => by rw [readT_nil] at h; injection h with h1 _; cases h1
  | n + 1, b :: l, l', u, h => by
    by_cases hb : kidsN (b.toNat : Int) < 0
    · rw [readT_bad n b l hb] at h; injection h with h1 _; cases h1
    rw [readT_good n b l hb] at h
    injection h with h1 h2
    subst h2
    cases e1 : readN (b.toNat : Int) (some l) with
    | mk s1 n1 =>
      try rw [e1] at h1
      dsimp only at h1 ⊢
      cases e2 : readD (b.toNat : Int) s1 with
      | mk s2 dat =>
        try rw [e2] at h1
        dsimp only at h1 ⊢
        cases e3 : readL (readT n) (kidsN (b.toNat : Int)).toNat s2 with
        | mk s3 ks =>
          try rw [e3] at h1
          dsimp only at h1 ⊢
          subst h1
          cases s2 with
          | none => rw [readL_none] at e3; injection e3 with e _; cases e
          | some m2 =>
            have k3 := readL_bytes (B := bytesT (n + 1)) (fun l l' u h => get_put n l l' u h) _ m2 l' ks e3
            have k2 : ∃ m1, s1 = some m1 ∧ (if (b.toNat : Int) = 3 then texb dat else []) ++ m2 = m1 := by
              unfold readD at e2
              split at e2
              · rename_i h3
                rw [if_pos h3]
                cases s1 with
                | none => exact absurd e2 (by simp [txtOf, cntOf, numOf, passed])
                | some m1 => exact ⟨m1, rfl, txt_bytes e2⟩
              · rename_i h3
                rw [if_neg h3]
                injection e2 with e _
                exact ⟨m2, e, rfl⟩
            obtain ⟨m1, rfl, k2⟩ := k2
            have k1 : (if numK (b.toNat : Int) = true then numb n1 else []) ++ m1 = l := by
              unfold readN at e1
              split at e1
              · rename_i h3
                rw [if_pos h3]
                exact numb_numOf l m1 n1 e1
              · rename_i h3
                rw [if_neg h3]
                injection e1 with e _
                injection e with e
                exact e.symm
            have hb2 : UInt8.ofNat ((b.toNat : Int) % 256).toNat = b := by
              have hu := b.toNat_lt
              apply UInt8.toNat_inj.1
              simp; omega
            show (headB _ ++ (ks.map (bytesT (n + 1))).flatten) ++ l' = b :: l
            unfold headB
            simp only [hb2, List.cons_append, List.append_assoc]
            rw [k3, k2, k1]
end Go.Proofs.YthgaljgelngmaaaDoor
end
