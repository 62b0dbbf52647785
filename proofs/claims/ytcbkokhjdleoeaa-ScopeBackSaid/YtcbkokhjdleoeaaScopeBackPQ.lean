/-
  ScP: Plain mathematics of layer 20 (scope): there and back (P20.4): what was read has the bytes that it was read of; a scope that may be is read of its own bytes, whatever stands behind. No program. No condition.
  ScopeBackW: The law ScopeBack over the loaded program: what was put is got, and back. No condition.
  ScopeBackP: THE STATEMENT ScopeBack of layer: proved out of the law's contract (scopeBack_law): for every input the call returns true, and the input reads as it did. No condition.
-/
import Derived.Test.YtcbkokhjdleoeaaSz01
import Derived.Test.YtcbkokhjdleoeaaSz25
import Derived.Test.YtcbkokhjdleoeaaRows
import Derived.WalkKit
import Derived.ProofKit
import Derived.OpenShut
import Derived.ShutString
import Derived.ChangeOld
import Derived.Below
set_option linter.unusedVariables false
set_option maxRecDepth 100000
namespace Go.Proofs.Ytcbkokhjdleoeaa
section
theorem sc_txt_of {l : List UInt8} (h : l.length ≤ 16) (r : List UInt8) : txtOf 16 (some (texb l ++ r)) = (some r, l) := by
  unfold txtOf cntOf texb
  rw [List.append_assoc, numOf_numb _ _ (by omega), if_neg (by simp; omega)]
  unfold passed
  simp only [Option.getD_some, List.length_append]
  rw [if_neg (by omega)]
  simp
theorem sc_cnt_of {m : Int} {z : Nat} (h : (z : Int) ≤ m) (hz : z < 18446744073709551616) (r : List UInt8) : cntOf m (some (numb z ++ r)) = (some r, z) := by
  unfold cntOf
  rw [numOf_numb _ _ hz, if_neg (by simp; omega)]
theorem sc_cnt_back {b r : List UInt8} {m : Int} {z : Nat} (h : cntOf m (some b) = (some r, z)) : numb z ++ r = b := by
  unfold cntOf at h
  split at h
  · cases h
  · exact numb_numOf b r z h
theorem sc_txt_back {b l r : List UInt8} {m : Int} (h : txtOf m (some b) = (some r, l)) : texb l ++ r = b := by
  unfold txtOf at h
  cases hc : cntOf m (some b) with
  | mk st n =>
    rw [hc] at h
    cases st with
    | none =>
      simp only [passed] at h
      split at h
      · cases h
      · cases h
    | some t =>
      simp only [passed, Option.getD_some, Option.map_some] at h
      split at h
      · cases h
      · rename_i hx
        injection h with h1 h2
        injection h1 with h1
        have hl := sc_cnt_back hc
        have hlen : l.length = n := by rw [← h2, List.length_take]; omega
        rw [← hl, texb, hlen, List.append_assoc, ← h2, ← h1, Int.toNat_natCast, List.take_append_drop]
theorem sc_cnt_none (m : Int) : (cntOf m none).1 = none := by
  unfold cntOf
  split <;> rfl
theorem sc_pass_none (n : Int) : (passed n none).1 = none := by
  unfold passed
  split <;> rfl
theorem sc_txt_none (m : Int) : (txtOf m none).1 = none := by
  unfold txtOf
  rw [sc_cnt_none]
  exact sc_pass_none _
theorem kidsR_none {α : Type} (g : Option (List UInt8) → Option (List UInt8) × α) : ∀ n, kidsR g n none = (none, [])
  | 0 => rfl
  | _ + 1 => rfl
theorem kidsR_bytes {α : Type} {g : Option (List UInt8) → Option (List UInt8) × α} {B : α → List UInt8} (h : ∀ l l' u, g (some l) = (some l', u) → B u ++ l' = l) :
    ∀ (n : Nat) (l l' : List UInt8) (ks : List α), kidsR g n (some l) = (some l', ks) → (ks.map B).flatten ++ l' = l ∧ ks.length = n
  | 0, l, l', ks, e => by
    rw [kidsR] at e
    injection e with e1 e2
    injection e1 with e1
    subst e1 e2; exact ⟨rfl, rfl⟩
  | n + 1, l, l', ks, e => by
    rw [kidsR] at e
    cases hg : g (some l) with
    | mk st u =>
      rw [hg] at e
      cases st with
      | none => rw [kidsR_none] at e; injection e with e1 _; cases e1
      | some m =>
        cases hr : kidsR g n (some m) with
        | mk st2 us =>
          simp only [hr] at e
          injection e with e1 e2
          subst e1 e2
          have := kidsR_bytes h n m l' us hr
          rw [List.map_cons, List.flatten_cons, List.append_assoc, this.1, List.length_cons, this.2]
          exact ⟨h l m u hg, rfl⟩
theorem name_back {k : Int} {s : Option (List UInt8)} {m n : List UInt8} (h : nameR k s = (some m, n)) : ∃ l, s = some l ∧ (if namedS k = true then texb n else []) ++ m = l := by
  unfold nameR at h
  split at h
  · rename_i hk
    rw [if_pos hk]
    cases s with
    | none => have := sc_txt_none 16; rw [h] at this; cases this
    | some l => exact ⟨l, rfl, sc_txt_back h⟩
  · rename_i hk
    rw [if_neg hk]
    injection h with h1 _
    exact ⟨m, h1, rfl⟩
theorem tick_back {k : Int} {s : Option (List UInt8)} {m : List UInt8} {n : Nat} (h : tickR k s = (some m, n)) : ∃ l, s = some l ∧ (if k = 5 then numb n else []) ++ m = l := by
  unfold tickR at h
  split at h
  · rename_i hk
    rw [if_pos hk]
    cases s with
    | none => have := sc_cnt_none 1099511627776; rw [h] at this; cases this
    | some l => exact ⟨l, rfl, sc_cnt_back h⟩
  · rename_i hk
    rw [if_neg hk]
    injection h with h1 _
    exact ⟨m, h1, rfl⟩
theorem many_back {k : Int} {s : Option (List UInt8)} {m : List UInt8} {n : Nat} (h : manyR k s = (some m, n)) : ∃ l, s = some l ∧ (if manyS k = true then numb n else []) ++ m = l := by
  unfold manyR at h
  split at h
  · rename_i hk
    rw [if_pos hk]
    cases s with
    | none => have := sc_cnt_none 24; rw [h] at this; cases this
    | some l => exact ⟨l, rfl, sc_cnt_back h⟩
  · rename_i hk
    rw [if_neg hk]
    split at h
    · injection h with h1 _; exact ⟨m, h1, rfl⟩
    · injection h with h1 _; exact ⟨m, h1, rfl⟩
theorem sc_get_put : ∀ (n : Nat) (l l' : List UInt8) (u : Ns (Sc n)), readSc n (some l) = (some l', u) → bytesS (n + 1) u ++ l' = l
  | 0, l, l', u, h => by rw [rs_zero] at h; injection h with h1 _; cases h1
  | n + 1, [], l', u, h => by rw [rs_nil] at h; injection h with h1 _; cases h1
  | n + 1, b :: l, l', u, h => by
    rw [rs_cons] at h
    injection h with h1 h2
    subst h2
    cases e1 : nameR (b.toNat : Int) (some l) with
    | mk s1 nm =>
      rw [e1] at h1
      dsimp only at h1 ⊢
      cases e2 : tickR (b.toNat : Int) s1 with
      | mk s2 t2 =>
        rw [e2] at h1
        dsimp only at h1 ⊢
        cases e3 : tickR (b.toNat : Int) s2 with
        | mk s3 t3 =>
          rw [e3] at h1
          dsimp only at h1 ⊢
          cases e4 : manyR (b.toNat : Int) s3 with
          | mk s4 n4 =>
            rw [e4] at h1
            dsimp only at h1 ⊢
            cases e5 : kidsR (readSc n) n4 s4 with
            | mk s5 ks =>
              rw [e5] at h1
              dsimp only at h1 ⊢
              subst h1
              cases s4 with
              | none => rw [kidsR_none] at e5; injection e5 with e _; cases e
              | some m4 =>
                obtain ⟨k5, k6⟩ := kidsR_bytes (B := bytesS (n + 1)) (fun l l' u h => sc_get_put n l l' u h) _ m4 l' ks e5
                obtain ⟨m3, rfl, k4⟩ := many_back e4
                obtain ⟨m2, rfl, k3⟩ := tick_back e3
                obtain ⟨m1, rfl, k2⟩ := tick_back e2
                obtain ⟨m0, hm0, k1⟩ := name_back e1
                injection hm0 with hm0
                subst hm0
                have hb2 : UInt8.ofNat ((b.toNat : Int) % 256).toNat = b := by
                  have hu := b.toNat_lt
                  apply UInt8.toNat_inj.1
                  simp; omega
                rw [bytesS_eq]
                unfold zheadS
                simp only [hb2, List.cons_append, List.append_assoc, Int.toNat_natCast, k6]
                rw [k5]
                congr 1
                by_cases h5 : (b.toNat : Int) = 5
                · rw [if_pos h5] at k2 k3 ⊢
                  rw [List.append_assoc, k4, k3, k2, k1]
                · rw [if_neg h5] at k2 k3 ⊢
                  simp only [List.nil_append] at k2 k3 ⊢
                  rw [k4, k3, k2, k1]
theorem kidsR_of {α β : Type} {g : Option (List UInt8) → Option (List UInt8) × β} {B : α → List UInt8} {R : α → β → Bool} :
    ∀ (ks : List α) (rest : List UInt8), (∀ t, t ∈ ks → ∀ rest, ∃ u, g (some (B t ++ rest)) = (some rest, u) ∧ R t u = true) →
      ∃ us, kidsR g ks.length (some ((ks.map B).flatten ++ rest)) = (some rest, us) ∧ sameSL R ks us = true
  | [], rest, h => ⟨[], rfl, rfl⟩
  | t :: ks, rest, h => by
    obtain ⟨u, hu, hr⟩ := h t (by simp) ((ks.map B).flatten ++ rest)
    obtain ⟨us, h1, h2⟩ := kidsR_of ks rest fun x hx => h x (by simp [hx])
    refine ⟨u :: us, ?_, by rw [sameSL, hr, h2]; rfl⟩
    rw [List.map_cons, List.flatten_cons, List.append_assoc, List.length_cons, kidsR, hu]
    dsimp only
    rw [h1]
theorem sc_put_get : ∀ (n f : Nat) (t : Sc f) (rest : List UInt8), okS f t n = true → nodesS f t ≤ 24 → ∃ u : Ns (Sc n), readSc n (some (bytesS f t ++ rest)) = (some rest, u) ∧ sameS f (n + 1) t u = true
  | n, 0, t, _, _, _ => nomatch t
  | 0, f + 1, (t : Ns (Sc f)), rest, h, _ => by
    rw [okS_eq] at h
    simp at h
  | n + 1, f + 1, (⟨k, nm, a, b, ks⟩ : Ns (Sc f)), rest, h, hn => by
    rw [okS_eq] at h
    simp only [Bool.and_eq_true, decide_eq_true_eq] at h
    obtain ⟨⟨_, h2⟩, h3⟩ := h
    rw [show ((n + 1 : Nat) : Int) - 1 = (n : Int) by omega] at h3
    obtain ⟨hk, hnm, hab, hks⟩ := (fits_iff _).1 h2
    dsimp only at hk hnm hab hks
    rw [nodesS_eq] at hn
    dsimp only at hn
    have hb : ((UInt8.ofNat (k % 256).toNat).toNat : Int) = k := by simp; omega
    obtain ⟨us, e5, hs⟩ := kidsR_of (g := readSc n) (B := bytesS f) (R := fun x y => sameS f (n + 1) x y) ks rest fun x hx rest => sc_put_get n f x rest (List.all_eq_true.1 h3 x hx) (by have := nodesS_kid f ks x hx; omega)
    have hkl : ks.length ≤ 24 := by have := nodesS_len f ks; omega
    have e1 : ∀ X, nameR k (some ((if namedS k = true then texb nm else []) ++ X)) = (some X, nm) := by
      intro X
      unfold nameR
      by_cases h5 : namedS k = true
      · rw [if_pos h5] at hnm
        rw [if_pos h5, if_pos h5]
        exact sc_txt_of ((name_iff nm).1 hnm).2.1 X
      · rw [if_neg h5] at hnm
        rw [if_neg h5, if_neg h5, of_decide_eq_true hnm]; rfl
    have e23 : ∀ X, ∃ Y, tickR k (some ((if k = 5 then numb a.toNat ++ numb b.toNat else []) ++ X)) = (some Y, a.toNat) ∧ tickR k (some Y) = (some X, b.toNat) ∧ ((a.toNat : Nat) : Int) = a ∧ ((b.toNat : Nat) : Int) = b := by
      intro X
      unfold tickR
      by_cases h5 : k = 5
      · rw [if_pos h5] at hab
        have hab := of_decide_eq_true hab
        refine ⟨numb b.toNat ++ X, ?_, ?_, by omega, by omega⟩
        · rw [if_pos h5, if_pos h5, List.append_assoc]; exact sc_cnt_of (by omega) (by omega) _
        · rw [if_pos h5]; exact sc_cnt_of (by omega) (by omega) _
      · rw [if_neg h5] at hab
        obtain ⟨rfl, rfl⟩ := of_decide_eq_true hab
        exact ⟨X, by rw [if_neg h5, if_neg h5]; rfl, by rw [if_neg h5]; rfl, rfl, rfl⟩
    have e4 : ∀ X, manyR k (some ((if manyS k = true then numb ks.length else []) ++ X)) = (some X, ks.length) := by
      intro X
      unfold manyR
      unfold kidsOk at hks
      by_cases h5 : manyS k = true
      · rw [if_pos h5, if_pos h5]
        exact sc_cnt_of (by omega) (by omega) _
      · rw [if_neg h5] at hks
        rw [if_neg h5, if_neg h5]
        by_cases h8 : k = 8
        · rw [if_pos h8] at hks
          rw [if_pos h8, of_decide_eq_true hks]; rfl
        · rw [if_neg h8] at hks
          rw [if_neg h8, of_decide_eq_true hks]; rfl
    have ebytes : bytesS (f + 1) (⟨k, nm, a, b, ks⟩ : Ns (Sc f)) ++ rest = UInt8.ofNat (k % 256).toNat :: ((if namedS k = true then texb nm else []) ++ ((if k = 5 then numb a.toNat ++ numb b.toNat else []) ++ ((if manyS k = true then numb ks.length else []) ++ ((ks.map (bytesS f)).flatten ++ rest)))) := by
      rw [bytesS_eq]
      unfold zheadS
      simp only [List.cons_append, List.append_assoc]
    obtain ⟨Y, e2, e3, ha, hb'⟩ := e23 ((if manyS k = true then numb ks.length else []) ++ ((ks.map (bytesS f)).flatten ++ rest))
    refine ⟨⟨k, nm, a, b, us⟩, ?_, sameS_parts.2 ⟨rfl, rfl, rfl, rfl, hs⟩⟩
    rw [ebytes, rs_cons, hb, e1]
    dsimp only
    rw [e2]
    dsimp only
    rw [e3]
    dsimp only
    rw [e4]
    dsimp only
    rw [e5, ha, hb']
theorem sc_there {f : Nat} {x : Sc f} (h : mayS f x = true) : (getSc (bytesS f x)).2 = 0 ∧ sameS f 9 x (getSc (bytesS f x)).1 = true := by
  have h' := h
  unfold mayS at h'
  rw [Bool.and_eq_true, decide_eq_true_eq] at h'
  obtain ⟨u, e, hs⟩ := sc_put_get 8 f x [] h'.1 h'.2
  rw [List.append_nil] at e
  unfold getSc
  rw [e, if_pos ⟨rfl, (zsame_may hs).symm.trans h⟩]
  exact ⟨rfl, hs⟩
theorem sc_back {b : List UInt8} (h : (getSc b).2 = 0) : mayS 9 (getSc b).1 = true ∧ bytesS 9 (getSc b).1 = b := by
  unfold getSc at h ⊢
  by_cases hc : (readSc 8 (some b)).1 = some [] ∧ mayS 9 (readSc 8 (some b)).2 = true
  · rw [if_pos hc]
    refine ⟨hc.2, ?_⟩
    have := sc_get_put 8 b [] (readSc 8 (some b)).2 (Prod.ext hc.1 rfl)
    rw [List.append_nil] at this
    exact this
  · rw [if_neg hc] at h; cases h
theorem sc_one {f : Nat} {x : Sc f} {b : List UInt8} (h : mayS f x = true) (hb : bytesS f x = b) : (getSc b).2 = 0 ∧ sameS f 9 x (getSc b).1 = true := hb ▸ sc_there h
theorem sc_none {b : List UInt8} (h : ¬ (getSc b).2 = 0) : getSc b = (zeroNs, 2) ∧ ∀ (f : Nat) (x : Sc f), mayS f x = true → bytesS f x ≠ b := by
  refine ⟨?_, fun f x hx e => h (sc_one hx e).1⟩
  unfold getSc at h ⊢
  split at h
  · exact absurd rfl h
  · rename_i hc; rw [if_neg hc]
end
section
open Go.RowKit Go.ChangeShapes Go.WideShapes Go.Joins
set_option maxHeartbeats 8000000 in
theorem scopeBack_main (f : Nat) (t : Sc f) (lb : List UInt8) (v vb : Value) (w : World) (h : ZV w (fun b => b < w.heap.size) f v t) (hb : BS w (fun _ => True) vb lb) : Calls Try.prog 6 #[v, vb] w (Yes20 w) := by
  obtain ⟨i0, l1, i2, i3, X4, n4, z4, rfl⟩ := h.form
  obtain ⟨A, c, rfl, _⟩ := hb.form
  have h1 := h.alloc (.cells #[.int .i64 i0, strV l1, .int .i64 i2, .int .i64 i3, .slice X4 n4 z4] 24)
  have B1 := (Below.refl w.heap.size w).alloc (Nat.le_refl _) (.cells #[.int .i64 i0, strV l1, .int .i64 i2, .int .i64 i3, .slice X4 n4 z4] 24)
  have kb := KB.new w 24 #[.int .i64 i0, strV l1, .int .i64 i2, .int .i64 i3, .slice X4 n4 z4]
  have hs := zsmall_any _ f t _ _ h1
  have h2 := hb.alloc (.cells #[.int .i64 i0, strV l1, .int .i64 i2, .int .i64 i3, .slice X4 n4 z4] 24)
  have hlm := hb.len
  have hlen : lb.length ≤ 9223372036854775807 := by unfold maxLen at hlm; omega
  unfold strV at *
  generalize (⟨l1.toArray⟩ : ByteArray) = s at *
  clear h hb hlm
  go_enter Try.func6, Try.ntmps6
  go_wp2_with fail
  refine hs.mono ?_
  rintro e w1 ⟨b, rfl, _, b1⟩
  have kx := kb.below b1 kb.lt
  have B := B1.trans (b1.mono B1.size)
  have hx := h1.below' b1
  have hbb := h2.below' b1
  clear hs b1 kb B1 h1 h2
  cases b with
  | false =>
    clear hx hbb
    go_wp2_with fail
    refine (live20_any _).mono ?_
    rintro e wL ⟨rfl, bL⟩
    have BL := B.trans (bL.mono B.size)
    go_wp2_with fail
    go_ret
    exact ⟨rfl, BL⟩
  | true =>
    by_cases h6 : (600 : Int) < (lb.length : Int)
    · have E6 := decide_eq_true h6
      clear hx hbb
      go_wp2_with fail
      refine (live20_any _).mono ?_
      rintro e wL ⟨rfl, bL⟩
      have BL := B.trans (bL.mono B.size)
      go_wp2_with fail
      go_ret
      exact ⟨rfl, BL⟩
    have E6 := decide_eq_false h6
    have HLB : Hid (lb.length ≤ 1000000) := by show _ ≤ _; omega
    clear h6
    have hS1 : ∀ x, x < w.heap.size → x < w1.heap.size := fun x hx => Nat.lt_of_lt_of_le hx B.size
    have hpt := zpput_any _ f t _ w1 hS1 hx
    have q0 := kx.cell 0
    have q1 := kx.cell 1
    have q2 := kx.cell 2
    have q3 := kx.cell 3
    have q4 := kx.cell 4
    simp only [List.getElem?_toArray, List.getElem?_cons_zero, List.getElem?_cons_succ] at q0 q1 q2 q3 q4
    cases hmay : mayS f t with
    | false =>
      rw [show putSc f t = ([], 1) from by unfold putSc; rw [hmay]; rfl] at hpt
      clear hmay hS1
      go_wp2_with fail
      refine hpt.mono ?_
      rintro e w4 ⟨va, rfl, oa, b4⟩
      replace B := B.trans (b4.mono B.size)
      replace hbb := hbb.below' b4
      obtain ⟨Aa, ca, rfl⟩ := zown_form oa
      clear hpt oa b4 hx kx q0 q1 q2 q3 q4
      go_wp2_with fail
      refine (zlnum_any 1 (by unfold I64; decide) _).mono ?_
      rintro e w9 ⟨rfl, rfl⟩
      have hg := zpget_any _ _ lb w9 hbb HLB.out
      by_cases hce : (getSc lb).2 = 0
      · obtain ⟨hmz, hbz⟩ := sc_back hce
        have hpz : putSc 9 (getSc lb).1 = (lb, 0) := by unfold putSc; rw [if_pos hmz, hbz]
        have HPZ := Lib.hid hpz
        clear hmz hbz hpz
        unfold GetZ at hg
        rw [hce] at hg
        generalize (getSc lb).1 = gz at *
        change Sc 9 at gz
        clear hce
        go_wp2_with fail
        refine hg.mono ?_
        rintro e w5 ⟨vz, rfl, hz, b5⟩
        obtain ⟨u0, lz, u2, u3, Z4, o4, zz, rfl⟩ := hz.form
        unfold strV at *
        generalize (⟨lz.toArray⟩ : ByteArray) = sz at *
        replace B := (B.trans (b5.mono B.size)).alloc (Nat.le_trans B.size b5.size) (.cells #[.int .i64 u0, .string sz, .int .i64 u2, .int .i64 u3, .slice Z4 o4 zz] 24)
        replace hbb := (hbb.below' b5).alloc (.cells #[.int .i64 u0, .string sz, .int .i64 u2, .int .i64 u3, .slice Z4 o4 zz] 24)
        replace hz := hz.alloc (.cells #[.int .i64 u0, .string sz, .int .i64 u2, .int .i64 u3, .slice Z4 o4 zz] 24)
        have kz := KB.new w5 24 #[.int .i64 u0, .string sz, .int .i64 u2, .int .i64 u3, .slice Z4 o4 zz]
        clear hg b5
        go_wp2_with fail
        refine (zlnum_any 0 (by unfold I64; decide) _).mono ?_
        rintro e w6 ⟨rfl, rfl⟩
        have hpt := zpput_any _ 9 gz _ _ (fun x hx => by simp; have := hx.2; omega) hz
        rw [HPZ.out] at hpt
        clear hz
        go_wp2_with fail
        refine hpt.mono ?_
        rintro e w7 ⟨vc, rfl, oc, b7⟩
        replace B := B.trans (b7.mono B.size)
        replace hbb := hbb.below' b7
        have xc := own_BS oc
        obtain ⟨Ac, cc, rfl, _⟩ := xc.form
        clear hpt oc b7 kz
        go_wp2_with fail
        refine (zlnum_any 0 (by unfold I64; decide) _).mono ?_
        rintro e w8 ⟨rfl, rfl⟩
        go_wp2_with fail
        refine (same_to _ _ _ _ _ _ xc hbb).mono ?_
        rintro e w9 ⟨rfl, b9⟩
        replace B := B.trans (b9.mono B.size)
        clear xc hbb b9
        go_wp2_with fail
        refine (live20_any _).mono ?_
        rintro e wL ⟨rfl, bL⟩
        have BL := B.trans (bL.mono B.size)
        go_wp2_with fail
        go_ret
        exact ⟨rfl, BL⟩
      · have E0 : ((getSc lb).2 != 0) = true := bne_iff_ne.2 hce
        have hI := zget_num lb
        unfold GetZ at hg
        generalize (getSc lb).2 = ce at *
        generalize (getSc lb).1 = gz at *
        clear hce
        go_wp2_with fail
        refine hg.mono ?_
        rintro e w5 ⟨vz, rfl, hz, b5⟩
        obtain ⟨u0, lz, u2, u3, Z4, o4, zz, rfl⟩ := hz.form
        unfold strV at *
        generalize (⟨lz.toArray⟩ : ByteArray) = sz at *
        replace B := (B.trans (b5.mono B.size)).alloc (Nat.le_trans B.size b5.size) (.cells #[.int .i64 u0, .string sz, .int .i64 u2, .int .i64 u3, .slice Z4 o4 zz] 24)
        clear hg b5 hz hbb
        go_wp2_with fail
        refine (zlnum_any ce hI _).mono ?_
        rintro e w6 ⟨rfl, rfl⟩
        go_wp2_with fail
        refine (live20_any _).mono ?_
        rintro e wL ⟨rfl, bL⟩
        have BL := B.trans (bL.mono B.size)
        go_wp2_with fail
        go_ret
        exact ⟨rfl, BL⟩
    | true =>
      obtain ⟨hth, hsm⟩ := sc_there hmay
      have hlb2 : (bytesS f t).length ≤ 1000000 := by
        have hm := hmay
        unfold mayS at hm
        rw [Bool.and_eq_true, decide_eq_true_eq] at hm
        have := zlen_le f t 8 hm.1
        omega
      rw [show putSc f t = (bytesS f t, 0) from by unfold putSc; rw [if_pos hmay]] at hpt
      have HG : Hid (∀ (S : Nat → Prop) v W, BS W S v (bytesS f t) → Calls Try.prog 15 #[v] W (fun e w' => ∃ u, e = .returned (.tuple #[u, .int .i64 0]) ∧ ZV w' (fun x => W.heap.size ≤ x ∧ x < w'.heap.size) 9 u (getSc (bytesS f t)).1 ∧ Below W.heap.size W w')) := fun S v W h => by
        have := zpget_any S v _ W h hlb2
        unfold GetZ at this
        rwa [hth] at this
      have HSM := Lib.hid hsm
      clear hth hsm hlb2 hS1
      generalize (getSc (bytesS f t)).1 = gy at *
      change Sc 9 at gy
      generalize bytesS f t = la at *
      go_wp2_with fail
      refine hpt.mono ?_
      rintro e w2 ⟨va, rfl, oa, b2⟩
      replace B := B.trans (b2.mono B.size)
      replace hbb := hbb.below' b2
      replace hx := hx.below' b2
      replace kx := kx.below b2 kx.lt
      have xa := own_BS oa
      obtain ⟨Aa, ca, rfl, _⟩ := xa.form
      clear hpt oa b2 q0 q1 q2 q3 q4 hmay
      go_wp2_with fail
      refine (zlnum_any 0 (by unfold I64; decide) _).mono ?_
      rintro e w9 ⟨rfl, rfl⟩
      have hg2 := HG.out _ _ _ xa
      clear HG xa
      go_wp2_with fail
      refine hg2.mono ?_
      rintro e w3 ⟨vy, rfl, hy, b3⟩
      obtain ⟨y0, ly, y2, y3, Y4, m4, yz, rfl⟩ := hy.form
      unfold strV at *
      generalize (⟨ly.toArray⟩ : ByteArray) = sy at *
      replace B := (B.trans (b3.mono B.size)).alloc (Nat.le_trans B.size b3.size) (.cells #[.int .i64 y0, .string sy, .int .i64 y2, .int .i64 y3, .slice Y4 m4 yz] 24)
      replace hbb := (hbb.below' b3).alloc (.cells #[.int .i64 y0, .string sy, .int .i64 y2, .int .i64 y3, .slice Y4 m4 yz] 24)
      replace hx := (hx.below' b3).alloc (.cells #[.int .i64 y0, .string sy, .int .i64 y2, .int .i64 y3, .slice Y4 m4 yz] 24)
      replace kx := (kx.below b3 kx.lt).alloc (.cells #[.int .i64 y0, .string sy, .int .i64 y2, .int .i64 y3, .slice Y4 m4 yz] 24)
      replace hy := hy.alloc (.cells #[.int .i64 y0, .string sy, .int .i64 y2, .int .i64 y3, .slice Y4 m4 yz] 24)
      have ky := KB.new w3 24 #[.int .i64 y0, .string sy, .int .i64 y2, .int .i64 y3, .slice Y4 m4 yz]
      clear hg2 b3
      go_wp2_with fail
      refine (zlnum_any 0 (by unfold I64; decide) _).mono ?_
      rintro e w10 ⟨rfl, rfl⟩
      have hsc := zpsame_any _ _ f 9 t gy _ _ _ hx hy
      rw [HSM.out] at hsc
      have q0 := kx.cell 0
      have q1 := kx.cell 1
      have q2 := kx.cell 2
      have q3 := kx.cell 3
      have q4 := kx.cell 4
      simp only [List.getElem?_toArray, List.getElem?_cons_zero, List.getElem?_cons_succ] at q0 q1 q2 q3 q4
      clear hx hy HSM
      go_wp2_with fail
      refine hsc.mono ?_
      rintro e w4 ⟨rfl, b4⟩
      replace B := B.trans (b4.mono B.size)
      replace hbb := hbb.below' b4
      clear hsc kx ky b4 q0 q1 q2 q3 q4
      have hg := zpget_any _ _ lb w4 hbb HLB.out
      by_cases hce : (getSc lb).2 = 0
      · obtain ⟨hmz, hbz⟩ := sc_back hce
        have hpz : putSc 9 (getSc lb).1 = (lb, 0) := by unfold putSc; rw [if_pos hmz, hbz]
        have HPZ := Lib.hid hpz
        clear hmz hbz hpz
        unfold GetZ at hg
        rw [hce] at hg
        generalize (getSc lb).1 = gz at *
        change Sc 9 at gz
        clear hce
        go_wp2_with fail
        refine hg.mono ?_
        rintro e w5 ⟨vz, rfl, hz, b5⟩
        obtain ⟨u0, lz, u2, u3, Z4, o4, zz, rfl⟩ := hz.form
        unfold strV at *
        generalize (⟨lz.toArray⟩ : ByteArray) = sz at *
        replace B := (B.trans (b5.mono B.size)).alloc (Nat.le_trans B.size b5.size) (.cells #[.int .i64 u0, .string sz, .int .i64 u2, .int .i64 u3, .slice Z4 o4 zz] 24)
        replace hbb := (hbb.below' b5).alloc (.cells #[.int .i64 u0, .string sz, .int .i64 u2, .int .i64 u3, .slice Z4 o4 zz] 24)
        replace hz := hz.alloc (.cells #[.int .i64 u0, .string sz, .int .i64 u2, .int .i64 u3, .slice Z4 o4 zz] 24)
        have kz := KB.new w5 24 #[.int .i64 u0, .string sz, .int .i64 u2, .int .i64 u3, .slice Z4 o4 zz]
        clear hg b5
        go_wp2_with fail
        refine (zlnum_any 0 (by unfold I64; decide) _).mono ?_
        rintro e w6 ⟨rfl, rfl⟩
        have hpt := zpput_any _ 9 gz _ _ (fun x hx => by simp; have := hx.2; omega) hz
        rw [HPZ.out] at hpt
        clear hz
        go_wp2_with fail
        refine hpt.mono ?_
        rintro e w7 ⟨vc, rfl, oc, b7⟩
        replace B := B.trans (b7.mono B.size)
        replace hbb := hbb.below' b7
        have xc := own_BS oc
        obtain ⟨Ac, cc, rfl, _⟩ := xc.form
        clear hpt oc b7 kz
        go_wp2_with fail
        refine (zlnum_any 0 (by unfold I64; decide) _).mono ?_
        rintro e w8 ⟨rfl, rfl⟩
        go_wp2_with fail
        refine (same_to _ _ _ _ _ _ xc hbb).mono ?_
        rintro e w9 ⟨rfl, b9⟩
        replace B := B.trans (b9.mono B.size)
        clear xc hbb b9
        go_wp2_with fail
        refine (live20_any _).mono ?_
        rintro e wL ⟨rfl, bL⟩
        have BL := B.trans (bL.mono B.size)
        go_wp2_with fail
        go_ret
        exact ⟨rfl, BL⟩
      · have E0 : ((getSc lb).2 != 0) = true := bne_iff_ne.2 hce
        have hI := zget_num lb
        unfold GetZ at hg
        generalize (getSc lb).2 = ce at *
        generalize (getSc lb).1 = gz at *
        clear hce
        go_wp2_with fail
        refine hg.mono ?_
        rintro e w5 ⟨vz, rfl, hz, b5⟩
        obtain ⟨u0, lz, u2, u3, Z4, o4, zz, rfl⟩ := hz.form
        unfold strV at *
        generalize (⟨lz.toArray⟩ : ByteArray) = sz at *
        replace B := (B.trans (b5.mono B.size)).alloc (Nat.le_trans B.size b5.size) (.cells #[.int .i64 u0, .string sz, .int .i64 u2, .int .i64 u3, .slice Z4 o4 zz] 24)
        clear hg b5 hz hbb
        go_wp2_with fail
        refine (zlnum_any ce hI _).mono ?_
        rintro e w6 ⟨rfl, rfl⟩
        go_wp2_with fail
        refine (live20_any _).mono ?_
        rintro e wL ⟨rfl, bL⟩
        have BL := B.trans (bL.mono B.size)
        go_wp2_with fail
        go_ret
        exact ⟨rfl, BL⟩
theorem scopeBack_law {H : Type} (enc : TypeId × Value → H) (W : World) (base : Nat) (v0 : Value) (d0 : DataW H) (p0 : List MemPlace) (v1 : Value) (d1 : DataW H) (p1 : List MemPlace)
    (k0 : Value.okWide Try.prog W .any base 24 v0) (k1 : Value.okWide Try.prog W .any base 27 v1)
    (h0 : DataW.Trod enc Try.prog W 0 (fun _ => true) true 24 v0 d0 p0) (h1 : DataW.Trod enc Try.prog W 0 (fun _ => true) true 27 v1 d1 p1) :
    Calls Try.prog 6 #[v0, v1] W fun e W' => e = .returned (.bool true) ∧ Below W.heap.size W W' := by
  obtain ⟨n, hn⟩ := open_scope k0 h0
  obtain ⟨t, ht⟩ := hn n (Nat.le_refl _)
  obtain ⟨l, hl⟩ := BS_of_arg k1 h1
  exact scopeBack_main n t l v0 v1 W ht hl
end
end Go.Proofs.Ytcbkokhjdleoeaa
section
namespace Go.Proofs.Ytcbkokhjdleoeaa.scopeBack
open Go.ChangeShapes Go.WideShapes Go.ChangeAt Go.RowKit
theorem own : ownKnob Try.prog.godebug = none := by kernel_rfl
theorem laidOut : laidOutB Try.prog = true := by kernel_rfl
set_option maxRecDepth 100000 in
theorem lifted (os : Os) (started : os.Started) (H : Type) (enc : TypeId × Value → H) :
    ReturnsInHanded {} Try.checked os 6 .any (Rows.scopeBackSpec.pre6 enc Try.prog Try.f6 Rows.scopeBackRow.domain false) (Rows.scopeBackSpec.post enc Try.prog Try.f6 false true false false) := by
  refine returnsInHanded_of_change (C := Try.checked) own started (by kernel_rfl) Try.func6
    (ChangeSpec.witness6 (enc := enc) (C := Try.checked) false ⟨#[], #[.agg #[.int .i64 0, .string ByteArray.empty, .int .i64 0, .int .i64 0, .slice none 0 0], .slice none 0 0], []⟩ 8 (by kernel_rfl) (by kernel_rfl) (by kernel_rfl) (by kernel_rfl)) ?_
  intro W base args ds gs before hval0 hW hcnd _
  have hval : ∀ (j : Nat) t v, Try.f6.params[j]? = some t → args[j]? = some v → Value.okWide Try.prog W .any base t v := hval0
  have hW' := hW
  obtain ⟨p, q, hA0, hV, rfl, hfz, hnd⟩ := hW
  have hA : DataW.TrodAll enc Try.prog W 0 (fun _ => true) true Try.f6.params.toList args.toList ds p := hA0
  rw [Try.params6] at hA hval
  obtain ⟨v0, vs0, d0, ds0, p0, q0, hargs, rfl, rfl, h0, r0⟩ := trodAll_cons hA
  obtain ⟨v1, vs1, d1, ds1, p1, q1, rfl, rfl, rfl, h1, r1⟩ := trodAll_cons r0
  obtain ⟨rfl, rfl, rfl⟩ := trodAll_nil r1
  obtain rfl : args = #[v0, v1] := by cases args; simp_all
  obtain ⟨rfl, rfl⟩ := trodVars_none hV
  have lt0 : ∀ x ∈ p0, x.block < W.heap.size := by obtain ⟨m, hm⟩ := h0; exact DataW.trod_lt m _ _ _ hm
  have lt1 : ∀ x ∈ p1, x.block < W.heap.size := by obtain ⟨m, hm⟩ := h1; exact DataW.trod_lt m _ _ _ hm
  refine (scopeBack_law enc W base v0 d0 p0 v1 d1 p1 (hval 0 _ v0 rfl rfl) (hval 1 _ v1 rfl rfl) h0 h1).mono fun e W' ⟨he, bel⟩ => ?_
  subst he
  exact ⟨_, rfl, _, _, _, [], _, [], hW', trodAll_mk1 (shut_bool Try.underlying4 _), (trodAll_cons_mk (Below.trod laidOut (by kernel_rfl) (of_decide_eq_true (by kernel_rfl)) h0 bel lt0) (trodAll_cons_mk (Below.trod laidOut (by kernel_rfl) (of_decide_eq_true (by kernel_rfl)) h1 bel lt1) trodAll_mk0)), rfl, bel.frame _, fun h => by cases h⟩
theorem over : Rows.scopeBackRow.holds Try.pinned (OpenSpec.ofChange Rows.scopeBackSpec) :=
  OpenClaim.holds_of_wide 6 Try.f6 rfl rfl rfl rfl rfl rfl rfl ⟨rfl, rfl, rfl, rfl, rfl⟩ rfl rfl rfl rfl rfl (by kernel_rfl) Try.func6 (by kernel_rfl)
    (of_decide_eq_true (by kernel_rfl)) (by unfold Func.isWrapper; first | (rw [if_pos (by decide +kernel)]; kernel_rfl) | (rw [if_neg (by decide +kernel)]; exact ⟨rfl, rfl⟩))
    (fun os started H enc _ => lifted os started H enc)
theorem proved : Rows.ScopeBackSaid := over
end Go.Proofs.Ytcbkokhjdleoeaa.scopeBack
end
