/-
  TermS: Which terms may be, by the document's own functions, over the loaded program: each one's contract. No condition but the sizes that each contract names.
-/
import Derived.Test.YthgaljgelngmaaaDoorDv03

section
namespace Go.Proofs.YthgaljgelngmaaaDoor
open Go.RowKit
set_option linter.unusedVariables false

theorem mayT_false {f : Nat} {t : Tm (f + 1)} {deep : Int} (h : ¬ (1 ≤ deep ∧ ownOk (t : Nd (Tm f)) = true)) : mayT (f + 1) t deep = false := by
  show (decide (1 ≤ deep) && ownOk (t : Nd (Tm f)) && _ && _) = false
  by_cases h1 : 1 ≤ deep
  · have : ownOk (t : Nd (Tm f)) = false := by
      cases hq : ownOk (t : Nd (Tm f)) with
      | false => rfl
      | true => exact absurd ⟨h1, hq⟩ h
    rw [this]; simp
  · rw [decide_eq_false h1]; simp

theorem ownOk_iff {α : Type} (k : Int) (n : Nat) (d : List UInt8) (ks : List α) : ownOk (⟨k, n, d, ks⟩ : Nd α) = true ↔
    (0 ≤ kidsN k ∧ (ks.length : Int) = kidsN k ∧ (numK k = true ∨ n = 0) ∧ (k = 3 ∨ d.length = 0) ∧ d.length ≤ 100) := by
  simp only [ownOk, Bool.and_eq_true, Bool.or_eq_true, decide_eq_true_eq, and_assoc]

/-- The kind of a kid, as its first cell holds it. -/
theorem kind_cell {w : World} {S : Nat → Prop} : ∀ {f : Nat} {ks : List (Tm f)} {j : Nat} (hj : j < ks.length) {e0 e1 e2 e3 : Value}, TV w S f (.agg #[e0, e1, e2, e3]) ks[j] → e0 = .int .i64 (kindAt f ks j)
  | 0, ks, j, hj, _, _, _, _, _ => nomatch ks[j]
  | f + 1, ks, j, hj, e0, e1, e2, e3, h => by
    obtain ⟨c0, c1, c2, c3, e, ht⟩ := h
    injection e with e
    simp only [Array.mk.injEq, List.cons.injEq, and_true] at e
    obtain ⟨rfl, rfl, rfl, rfl⟩ := e
    rw [ht.1]
    congr 1
    show _ = (((ks : List (Nd (Tm f)))[j]?).map (·.kind)).getD 0
    rw [List.getElem?_eq_getElem hj]; rfl

theorem all_step {α : Type} {P : α → Bool} {ks : List α} {j : Nat} (hj : j < ks.length) (h : (ks.take j).all P = true) (hp : P ks[j] = true) : (ks.take (j + 1)).all P = true := by
  rw [List.take_add_one, List.getElem?_eq_getElem hj, List.all_append, h]
  simp [hp]
theorem all_stop {α : Type} {P : α → Bool} {ks : List α} {j : Nat} (hj : j < ks.length) (hp : P ks[j] = false) : ks.all P = false := by
  cases hq : ks.all P with
  | false => rfl
  | true =>
    have := List.all_eq_true.1 hq ks[j] (List.getElem_mem hj)
    rw [hp] at this; cases this

set_option maxHeartbeats 1000000 in
theorem rmay_any (S : Nat → Prop) : ∀ (f : Nat) (t : Tm f) (v : Value) (deep : Int) (w : World), I64 deep → TV w S f v t →
    Calls Tryd.prog 29 #[v, .int .i64 deep] w fun e w' => e = .returned (.bool (mayT f t deep)) ∧ Below w.heap.size w w' := by
  intro f
  induction f with
  | zero => intro t; exact nomatch t
  | succ f ih =>
    intro t v deep w hd hv
    obtain ⟨c0, c1, c2, c3, rfl, rfl, hk, rfl, hn, hdat, hks⟩ := hv
    obtain ⟨A2, cap2, rfl, hl2, hm2, _⟩ := hdat.form
    obtain ⟨A3, cap3, e3, hl3, hm3, _⟩ := id hks
    obtain ⟨k, n, d, ks⟩ := (t : Nd (Tm f))
    simp only at e3 hks hk hn hdat hl2 hl3
    subst e3
    have hlen : ks.length ≤ 9223372036854775807 := by unfold maxLen at hm3; omega
    have hdl : d.length ≤ 9223372036854775807 := by unfold maxLen at hm2; omega
    have hd1 := hd.1
    have hd2 := hd.2
    generalize hni : ((n : Nat) : Int) = ni at *
    have kb := KB.new w 35 #[.int .i64 k, .int .u64 ni, .slice A2 d.length cap2, .slice A3 ks.length cap3]
    have B0 := (Below.refl w.heap.size w).alloc (Nat.le_refl _) (.cells #[.int .i64 k, .int .u64 ni, .slice A2 d.length cap2, .slice A3 ks.length cap3] 35)
    have hown := ownOk_iff (α := Tm f) k n d ks
    have hf := fun h => mayT_false (f := f) (t := (⟨k, n, d, ks⟩ : Nd (Tm f))) (deep := deep) h
    rw [hown] at hf
    have hkid : ∀ w : World, Calls Tryd.prog 45 #[.int .i64 k] w fun e w' => e = .returned (.int .i64 (kidsN k)) ∧ w' = w := fun w => (kids_any k w).mono fun e w' h => ⟨h.1, h.2.symm⟩
    have hnum : ∀ w : World, Calls Tryd.prog 46 #[.int .i64 k] w fun e w' => e = .returned (.bool (numK k)) ∧ w' = w := fun w => (number_any k w).mono fun e w' h => ⟨h.1, h.2.symm⟩
    have hK5 : k = 5 → kidsN k = 2 := fun h => by subst h; rfl
    have h3N : k = 3 → numK k = false := fun h => by subst h; rfl
    have h5N : k = 5 → numK k = true := fun h => by subst h; rfl
    have hp : 1 ≤ deep → ownOk (⟨k, n, d, ks⟩ : Nd (Tm f)) = true → mayT (f + 1) (⟨k, n, d, ks⟩ : Nd (Tm f)) deep = (ks.all (fun u => mayT f u (deep - 1)) && (decide (k ≠ 5) || decide (kindAt f ks 1 = 2))) := fun h1 h2 => by
      show (decide (1 ≤ deep) && ownOk (⟨k, n, d, ks⟩ : Nd (Tm f)) && _ && _) = _
      rw [h2, decide_eq_true h1, Bool.true_and, Bool.true_and]
    rw [hown] at hp
    obtain ⟨P, HP⟩ : ∃ P : Tm f → Bool, ∀ u, P u = mayT f u (deep - 1) := ⟨_, fun _ => rfl⟩
    rw [show (fun u => mayT f u (deep - 1)) = P from funext fun u => (HP u).symm] at hp
    clear hown hdat hl2 hm2
    generalize d.length = dl at *
    generalize kidsN k = K at *
    generalize numK k = N at *
    generalize mayT (f + 1) (⟨k, n, d, ks⟩ : Nd (Tm f)) deep = r at *
    have HF := Lib.hid hf
    have HPp := Lib.hid hp
    have HPu := Lib.hid HP
    have HK5 := Lib.hid hK5
    have H3N := Lib.hid h3N
    have H5N := Lib.hid h5N
    clear hf hp HP hK5 h3N h5N
    by_cases h1 : deep < 1
    · rw [HF.out (by omega)]
      go_enter Tryd.func29, Tryd.ntmps29
      go_wp2_with fail
      generalize w.alloc (.cells #[.int .i64 k, .int .u64 ni, .slice A2 dl cap2, .slice A3 ks.length cap3] 35) = w1 at *
      have q0 : w1.cell? ⟨w.heap.size, 0, none⟩ = some (.int .i64 k) := kb.cell 0
      have q1 : w1.cell? ⟨w.heap.size, 1, none⟩ = some (.int .u64 ni) := kb.cell 1
      have q3 : w1.cell? ⟨w.heap.size, 3, none⟩ = some (.slice A3 ks.length cap3) := kb.cell 3
      go_quiet ((first | (go_at_call 45; with_reducible exact Calls.quiet_of_same (hkid _)) | (go_at_call 46; with_reducible exact Calls.quiet_of_same (hnum _))))
      go_wp2_with fail
      go_ret
      exact ⟨rfl, Below_drawn B0 nq⟩
    have g1 := decide_eq_false h1
    by_cases h2 : K < 0
    · rw [HF.out (by omega)]
      have g2 := decide_eq_true h2
      go_enter Tryd.func29, Tryd.ntmps29
      go_wp2_with fail
      generalize w.alloc (.cells #[.int .i64 k, .int .u64 ni, .slice A2 dl cap2, .slice A3 ks.length cap3] 35) = w1 at *
      have q0 : w1.cell? ⟨w.heap.size, 0, none⟩ = some (.int .i64 k) := kb.cell 0
      have q1 : w1.cell? ⟨w.heap.size, 1, none⟩ = some (.int .u64 ni) := kb.cell 1
      have q3 : w1.cell? ⟨w.heap.size, 3, none⟩ = some (.slice A3 ks.length cap3) := kb.cell 3
      go_quiet ((first | (go_at_call 45; with_reducible exact Calls.quiet_of_same (hkid _)) | (go_at_call 46; with_reducible exact Calls.quiet_of_same (hnum _))))
      go_wp2_with fail
      go_ret
      exact ⟨rfl, Below_drawn B0 nq⟩
    have g2 := decide_eq_false h2
    by_cases h3 : (ks.length : Int) = K
    case neg =>
      rw [HF.out (by omega)]
      have g3 : ((ks.length : Int) != K) = true := bne_iff_ne.2 h3
      go_enter Tryd.func29, Tryd.ntmps29
      go_wp2_with fail
      generalize w.alloc (.cells #[.int .i64 k, .int .u64 ni, .slice A2 dl cap2, .slice A3 ks.length cap3] 35) = w1 at *
      have q0 : w1.cell? ⟨w.heap.size, 0, none⟩ = some (.int .i64 k) := kb.cell 0
      have q1 : w1.cell? ⟨w.heap.size, 1, none⟩ = some (.int .u64 ni) := kb.cell 1
      have q3 : w1.cell? ⟨w.heap.size, 3, none⟩ = some (.slice A3 ks.length cap3) := kb.cell 3
      go_quiet ((first | (go_at_call 45; with_reducible exact Calls.quiet_of_same (hkid _)) | (go_at_call 46; with_reducible exact Calls.quiet_of_same (hnum _))))
      go_wp2_with fail
      go_ret
      exact ⟨rfl, Below_drawn B0 nq⟩
    by_cases h4 : N = false ∧ n ≠ 0
    · obtain ⟨rfl, h4n⟩ := h4
      rw [HF.out (by simp; omega)]
      have g5 : ¬ ni = 0 := by omega
      have g4 : (ni != 0) = true := bne_iff_ne.2 g5
      clear hni
      go_enter Tryd.func29, Tryd.ntmps29
      go_wp2_with fail
      generalize w.alloc (.cells #[.int .i64 k, .int .u64 ni, .slice A2 dl cap2, .slice A3 ks.length cap3] 35) = w1 at *
      have q0 : w1.cell? ⟨w.heap.size, 0, none⟩ = some (.int .i64 k) := kb.cell 0
      have q1 : w1.cell? ⟨w.heap.size, 1, none⟩ = some (.int .u64 ni) := kb.cell 1
      have q3 : w1.cell? ⟨w.heap.size, 3, none⟩ = some (.slice A3 ks.length cap3) := kb.cell 3
      go_quiet ((first | (go_at_call 45; with_reducible exact Calls.quiet_of_same (hkid _)) | (go_at_call 46; with_reducible exact Calls.quiet_of_same (hnum _))))
      go_wp2_with fail
      go_ret
      exact ⟨rfl, Below_drawn B0 nq⟩
    have g3 : ((ks.length : Int) != K) = false := by rw [h3]; exact bne_self_eq_false K
    have W2 : wrap64 (deep - 1) = deep - 1 := IntWalk.wrap64_in _ (by omega)
    have HD : Hid (I64 (deep - 1)) := by show I64 _; unfold I64; omega
    have hNn : N = true ∨ n = 0 := by
      cases N with
      | true => exact .inl rfl
      | false => exact .inr (by
        rcases Nat.eq_zero_or_pos n with h | h
        · exact h
        · exact absurd ⟨rfl, by omega⟩ h4)
    by_cases hd3 : k ≠ 3 ∧ 0 < dl
    · rw [HF.out (by omega)]
      obtain ⟨hk3, hd0⟩ := hd3
      have g6 : (k != 3) = true := bne_iff_ne.2 hk3
      have gd0 : decide (0 < dl) = true := decide_eq_true hd0
      cases N with
      | true =>
        go_enter Tryd.func29, Tryd.ntmps29
        go_wp2_with fail
        generalize w.alloc (.cells #[.int .i64 k, .int .u64 ni, .slice A2 dl cap2, .slice A3 ks.length cap3] 35) = w1 at *
        have q0 : w1.cell? ⟨w.heap.size, 0, none⟩ = some (.int .i64 k) := kb.cell 0
        have q1 : w1.cell? ⟨w.heap.size, 1, none⟩ = some (.int .u64 ni) := kb.cell 1
        have q3 : w1.cell? ⟨w.heap.size, 3, none⟩ = some (.slice A3 ks.length cap3) := kb.cell 3
        go_quiet ((first | (go_at_call 45; with_reducible exact Calls.quiet_of_same (hkid _)) | (go_at_call 46; with_reducible exact Calls.quiet_of_same (hnum _))))
        have K2 : KB (w1.drewN nq) w.heap.size 35 #[.int .i64 k, .int .u64 ni, .slice A2 dl cap2, .slice A3 ks.length cap3] := kb
        have B2 := Below_drawn B0 nq
        clear q0 q1 q3 kb B0
        generalize w1.drewN nq = w2 at *
        have p0 : w2.cell? ⟨w.heap.size, 0, none⟩ = some (.int .i64 k) := K2.cell 0
        have p2 : w2.cell? ⟨w.heap.size, 2, none⟩ = some (.slice A2 dl cap2) := K2.cell 2
        go_wp2_with fail
        go_ret
        exact ⟨rfl, B2⟩
      | false =>
        obtain rfl : n = 0 := by simpa using hNn
        obtain rfl : ni = 0 := hni.symm
        go_enter Tryd.func29, Tryd.ntmps29
        go_wp2_with fail
        generalize w.alloc (.cells #[.int .i64 k, .int .u64 0, .slice A2 dl cap2, .slice A3 ks.length cap3] 35) = w1 at *
        have q0 : w1.cell? ⟨w.heap.size, 0, none⟩ = some (.int .i64 k) := kb.cell 0
        have q1 : w1.cell? ⟨w.heap.size, 1, none⟩ = some (.int .u64 0) := kb.cell 1
        have q3 : w1.cell? ⟨w.heap.size, 3, none⟩ = some (.slice A3 ks.length cap3) := kb.cell 3
        go_quiet ((first | (go_at_call 45; with_reducible exact Calls.quiet_of_same (hkid _)) | (go_at_call 46; with_reducible exact Calls.quiet_of_same (hnum _))))
        have K2 : KB (w1.drewN nq) w.heap.size 35 #[.int .i64 k, .int .u64 0, .slice A2 dl cap2, .slice A3 ks.length cap3] := kb
        have B2 := Below_drawn B0 nq
        clear q0 q1 q3 kb B0
        generalize w1.drewN nq = w2 at *
        have p0 : w2.cell? ⟨w.heap.size, 0, none⟩ = some (.int .i64 k) := K2.cell 0
        have p2 : w2.cell? ⟨w.heap.size, 2, none⟩ = some (.slice A2 dl cap2) := K2.cell 2
        go_wp2_with fail
        go_ret
        exact ⟨rfl, B2⟩
    by_cases hd100 : 100 < dl
    · have hk3 : k = 3 := by omega
      rw [HF.out (by omega)]
      have gd0 : decide (100 < dl) = true := decide_eq_true hd100
      have hN := H3N.out hk3
      subst hk3 hN
      obtain rfl : n = 0 := by simpa using hNn
      obtain rfl : ni = 0 := hni.symm
      go_enter Tryd.func29, Tryd.ntmps29
      go_wp2_with fail
      generalize w.alloc (.cells #[.int .i64 3, .int .u64 0, .slice A2 dl cap2, .slice A3 ks.length cap3] 35) = w1 at *
      have q0 : w1.cell? ⟨w.heap.size, 0, none⟩ = some (.int .i64 3) := kb.cell 0
      have q1 : w1.cell? ⟨w.heap.size, 1, none⟩ = some (.int .u64 0) := kb.cell 1
      have q3 : w1.cell? ⟨w.heap.size, 3, none⟩ = some (.slice A3 ks.length cap3) := kb.cell 3
      go_quiet ((first | (go_at_call 45; with_reducible exact Calls.quiet_of_same (hkid _)) | (go_at_call 46; with_reducible exact Calls.quiet_of_same (hnum _))))
      have K2 : KB (w1.drewN nq) w.heap.size 35 #[.int .i64 3, .int .u64 0, .slice A2 dl cap2, .slice A3 ks.length cap3] := kb
      have B2 := Below_drawn B0 nq
      clear q0 q1 q3 kb B0
      generalize w1.drewN nq = w2 at *
      have p0 : w2.cell? ⟨w.heap.size, 0, none⟩ = some (.int .i64 3) := K2.cell 0
      have p2 : w2.cell? ⟨w.heap.size, 2, none⟩ = some (.slice A2 dl cap2) := K2.cell 2
      go_wp2_with fail
      go_ret
      exact ⟨rfl, B2⟩
    have hr := HPp.out (by omega) ⟨by omega, h3, hNn, by omega, by omega⟩
    have HR1 : Hid (ks.all P = true → r = (decide (k ≠ 5) || decide (kindAt f ks 1 = 2))) := fun h => by rw [hr, h, Bool.true_and]
    have HR2 : Hid (ks.all P = false → r = false) := fun h => by rw [hr, h, Bool.false_and]
    clear hr
    have gd : decide (100 < dl) = false := decide_eq_false hd100
    cases N with
    | true =>
      have hk3 : ¬ k = 3 := fun h => by have := H3N.out h; cases this
      have g6 : (k != 3) = true := bne_iff_ne.2 hk3
      obtain rfl : dl = 0 := (Nat.eq_zero_or_pos dl).elim id fun h => absurd ⟨hk3, h⟩ hd3
      go_enter Tryd.func29, Tryd.ntmps29
      go_wp2_with fail
      generalize w.alloc (.cells #[.int .i64 k, .int .u64 ni, .slice A2 0 cap2, .slice A3 ks.length cap3] 35) = w1 at *
      have q0 : w1.cell? ⟨w.heap.size, 0, none⟩ = some (.int .i64 k) := kb.cell 0
      have q1 : w1.cell? ⟨w.heap.size, 1, none⟩ = some (.int .u64 ni) := kb.cell 1
      have q3 : w1.cell? ⟨w.heap.size, 3, none⟩ = some (.slice A3 ks.length cap3) := kb.cell 3
      go_quiet ((first | (go_at_call 45; with_reducible exact Calls.quiet_of_same (hkid _)) | (go_at_call 46; with_reducible exact Calls.quiet_of_same (hnum _))))
      have K2 : KB (w1.drewN nq) w.heap.size 35 #[.int .i64 k, .int .u64 ni, .slice A2 0 cap2, .slice A3 ks.length cap3] := kb
      have B2 := Below_drawn B0 nq
      clear q0 q1 q3 kb B0
      generalize w1.drewN nq = w2 at *
      have p0 : w2.cell? ⟨w.heap.size, 0, none⟩ = some (.int .i64 k) := K2.cell 0
      have p2 : w2.cell? ⟨w.heap.size, 2, none⟩ = some (.slice A2 0 cap2) := K2.cell 2
      go_wp2_with fail
      clear p0 p2
      go_loopw [5] (fun iv wr => ∃ j : Nat, j ≤ ks.length ∧ Hid ((ks.take j).all P = true) ∧ iv = .int .i64 j ∧ KB wr w.heap.size 35 #[.int .i64 k, .int .u64 ni, .slice A2 0 cap2, .slice A3 ks.length cap3] ∧ Below w.heap.size w wr) (fun iv _ => ks.length - (intOf iv).toNat)
      case atStart => exact ⟨0, by omega, by show _ = _; simp, rfl, K2, B2⟩
      case round =>
        obtain ⟨j, hj, hall, rfl, K5, B⟩ := hrel
        have q0 : wr.cell? ⟨w.heap.size, 0, none⟩ = some (.int .i64 k) := K5.cell 0
        have q3 : wr.cell? ⟨w.heap.size, 3, none⟩ = some (.slice A3 ks.length cap3) := K5.cell 3
        by_cases hlt : j < ks.length
        · obtain ⟨b, o, e0, e1, e2, e3, rfl, _, _, k0, k1, k2, k3, hv⟩ := kid_at hks B j hlt
          have hc := ih ks[j] (.agg #[e0, e1, e2, e3]) (deep - 1) wr HD.out hv
          rw [← HPu.out ks[j]] at hc
          have hyes := Lib.hid (fun hp => all_step (P := P) hlt hall.out hp)
          have hno := Lib.hid (fun hp => HR2.out (all_stop (P := P) hlt hp))
          clear hv hks
          generalize P ks[j] = p at *
          cases p with
          | true =>
            have hy := Lib.hid (hyes.out rfl)
            clear hyes hno
            go_wp2_with fail
            refine hc.mono ?_
            rintro e w5 ⟨rfl, b5⟩
            have K6 := K5.below b5 K5.lt
            have B6 := B.trans (b5.mono B.size)
            clear hc
            go_wp2_with fail
            go_roundw
            case rel => exact ⟨j + 1, by omega, hy, by go_num, K6, B6⟩
            case measure => simp [intOf]; omega
          | false =>
            have hr := hno.out rfl
            clear hyes hno HR1 HR2 HF HPp
            subst hr
            go_wp2_with fail
            refine hc.mono ?_
            rintro e w5 ⟨rfl, b5⟩
            have B6 := B.trans (b5.mono B.size)
            clear hc
            go_wp2_with fail
            go_ret
            exact ⟨rfl, B6⟩
        · have hr := HR1.out (by have := hall.out; rwa [show j = ks.length by omega, List.take_length] at this)
          by_cases h5 : k = 5
          · have h2 : ks.length = 2 := by have := HK5.out h5; omega
            have hl1 : 1 < ks.length := by omega
            obtain ⟨b, o, e0, e1, e2, e3, rfl, _, _, k0, k1, k2, k3, hv⟩ := kid_at hks B 1 hl1
            have ek := kind_cell hl1 hv
            rw [decide_eq_false (by simp [h5] : ¬ k ≠ 5), Bool.false_or] at hr
            generalize kindAt f ks 1 = q at *
            subst ek
            have k0' : wr.cell? ⟨b, o + 4, none⟩ = some (.int .i64 q) := k0
            clear hv hks k0 k1 k2 k3 HR1 HR2 HF HPp
            subst h5
            by_cases hq : q = 2
            · rw [decide_eq_true hq] at hr
              subst hr hq
              go_wp2_with fail
              go_ret
              exact ⟨rfl, B⟩
            · rw [decide_eq_false hq] at hr
              subst hr
              have hq2 : (q == 2) = false := beq_eq_false_iff_ne.2 hq
              go_wp2_with fail
              go_ret
              exact ⟨rfl, B⟩
          · rw [decide_eq_true h5, Bool.true_or] at hr
            have g7 : (k != 5) = true := bne_iff_ne.2 h5
            clear HR1 HR2 HF HPp
            subst hr
            go_wp2_with fail
            go_ret
            exact ⟨rfl, B⟩
    | false =>
      obtain rfl : n = 0 := by simpa using hNn
      obtain rfl : ni = 0 := hni.symm
      by_cases hk3 : k = 3
      · subst hk3
        go_enter Tryd.func29, Tryd.ntmps29
        go_wp2_with fail
        generalize w.alloc (.cells #[.int .i64 3, .int .u64 0, .slice A2 dl cap2, .slice A3 ks.length cap3] 35) = w1 at *
        have q0 : w1.cell? ⟨w.heap.size, 0, none⟩ = some (.int .i64 3) := kb.cell 0
        have q1 : w1.cell? ⟨w.heap.size, 1, none⟩ = some (.int .u64 0) := kb.cell 1
        have q3 : w1.cell? ⟨w.heap.size, 3, none⟩ = some (.slice A3 ks.length cap3) := kb.cell 3
        go_quiet ((first | (go_at_call 45; with_reducible exact Calls.quiet_of_same (hkid _)) | (go_at_call 46; with_reducible exact Calls.quiet_of_same (hnum _))))
        have K2 : KB (w1.drewN nq) w.heap.size 35 #[.int .i64 3, .int .u64 0, .slice A2 dl cap2, .slice A3 ks.length cap3] := kb
        have B2 := Below_drawn B0 nq
        clear q0 q1 q3 kb B0
        generalize w1.drewN nq = w2 at *
        have p0 : w2.cell? ⟨w.heap.size, 0, none⟩ = some (.int .i64 3) := K2.cell 0
        have p2 : w2.cell? ⟨w.heap.size, 2, none⟩ = some (.slice A2 dl cap2) := K2.cell 2
        go_wp2_with fail
        clear p0 p2
        go_loopw [5] (fun iv wr => ∃ j : Nat, j ≤ ks.length ∧ Hid ((ks.take j).all P = true) ∧ iv = .int .i64 j ∧ KB wr w.heap.size 35 #[.int .i64 3, .int .u64 0, .slice A2 dl cap2, .slice A3 ks.length cap3] ∧ Below w.heap.size w wr) (fun iv _ => ks.length - (intOf iv).toNat)
        case atStart => exact ⟨0, by omega, by show _ = _; simp, rfl, K2, B2⟩
        case round =>
          obtain ⟨j, hj, hall, rfl, K5, B⟩ := hrel
          have q0 : wr.cell? ⟨w.heap.size, 0, none⟩ = some (.int .i64 3) := K5.cell 0
          have q3 : wr.cell? ⟨w.heap.size, 3, none⟩ = some (.slice A3 ks.length cap3) := K5.cell 3
          by_cases hlt : j < ks.length
          · obtain ⟨b, o, e0, e1, e2, e3, rfl, _, _, k0, k1, k2, k3, hv⟩ := kid_at hks B j hlt
            have hc := ih ks[j] (.agg #[e0, e1, e2, e3]) (deep - 1) wr HD.out hv
            rw [← HPu.out ks[j]] at hc
            have hyes := Lib.hid (fun hp => all_step (P := P) hlt hall.out hp)
            have hno := Lib.hid (fun hp => HR2.out (all_stop (P := P) hlt hp))
            clear hv hks
            generalize P ks[j] = p at *
            cases p with
            | true =>
              have hy := Lib.hid (hyes.out rfl)
              clear hyes hno
              go_wp2_with fail
              refine hc.mono ?_
              rintro e w5 ⟨rfl, b5⟩
              have K6 := K5.below b5 K5.lt
              have B6 := B.trans (b5.mono B.size)
              clear hc
              go_wp2_with fail
              go_roundw
              case rel => exact ⟨j + 1, by omega, hy, by go_num, K6, B6⟩
              case measure => simp [intOf]; omega
            | false =>
              have hr := hno.out rfl
              clear hyes hno HR1 HR2 HF HPp
              subst hr
              go_wp2_with fail
              refine hc.mono ?_
              rintro e w5 ⟨rfl, b5⟩
              have B6 := B.trans (b5.mono B.size)
              clear hc
              go_wp2_with fail
              go_ret
              exact ⟨rfl, B6⟩
          · have hr := HR1.out (by have := hall.out; rwa [show j = ks.length by omega, List.take_length] at this)
            rw [show decide ((3 : Int) ≠ 5) = true from by decide, Bool.true_or] at hr
            clear HR1 HR2 HF HPp
            subst hr
            go_wp2_with fail
            go_ret
            exact ⟨rfl, B⟩
      · have g6 : (k != 3) = true := bne_iff_ne.2 hk3
        obtain rfl : dl = 0 := (Nat.eq_zero_or_pos dl).elim id fun h => absurd ⟨hk3, h⟩ hd3
        have h5 : k ≠ 5 := fun h => by have := H5N.out h; cases this
        have g7 : (k != 5) = true := bne_iff_ne.2 h5
        go_enter Tryd.func29, Tryd.ntmps29
        go_wp2_with fail
        generalize w.alloc (.cells #[.int .i64 k, .int .u64 0, .slice A2 0 cap2, .slice A3 ks.length cap3] 35) = w1 at *
        have q0 : w1.cell? ⟨w.heap.size, 0, none⟩ = some (.int .i64 k) := kb.cell 0
        have q1 : w1.cell? ⟨w.heap.size, 1, none⟩ = some (.int .u64 0) := kb.cell 1
        have q3 : w1.cell? ⟨w.heap.size, 3, none⟩ = some (.slice A3 ks.length cap3) := kb.cell 3
        go_quiet ((first | (go_at_call 45; with_reducible exact Calls.quiet_of_same (hkid _)) | (go_at_call 46; with_reducible exact Calls.quiet_of_same (hnum _))))
        have K2 : KB (w1.drewN nq) w.heap.size 35 #[.int .i64 k, .int .u64 0, .slice A2 0 cap2, .slice A3 ks.length cap3] := kb
        have B2 := Below_drawn B0 nq
        clear q0 q1 q3 kb B0
        generalize w1.drewN nq = w2 at *
        have p0 : w2.cell? ⟨w.heap.size, 0, none⟩ = some (.int .i64 k) := K2.cell 0
        have p2 : w2.cell? ⟨w.heap.size, 2, none⟩ = some (.slice A2 0 cap2) := K2.cell 2
        go_wp2_with fail
        clear p0 p2
        go_loopw [5] (fun iv wr => ∃ j : Nat, j ≤ ks.length ∧ Hid ((ks.take j).all P = true) ∧ iv = .int .i64 j ∧ KB wr w.heap.size 35 #[.int .i64 k, .int .u64 0, .slice A2 0 cap2, .slice A3 ks.length cap3] ∧ Below w.heap.size w wr) (fun iv _ => ks.length - (intOf iv).toNat)
        case atStart => exact ⟨0, by omega, by show _ = _; simp, rfl, K2, B2⟩
        case round =>
          obtain ⟨j, hj, hall, rfl, K5, B⟩ := hrel
          have q0 : wr.cell? ⟨w.heap.size, 0, none⟩ = some (.int .i64 k) := K5.cell 0
          have q3 : wr.cell? ⟨w.heap.size, 3, none⟩ = some (.slice A3 ks.length cap3) := K5.cell 3
          by_cases hlt : j < ks.length
          · obtain ⟨b, o, e0, e1, e2, e3, rfl, _, _, k0, k1, k2, k3, hv⟩ := kid_at hks B j hlt
            have hc := ih ks[j] (.agg #[e0, e1, e2, e3]) (deep - 1) wr HD.out hv
            rw [← HPu.out ks[j]] at hc
            have hyes := Lib.hid (fun hp => all_step (P := P) hlt hall.out hp)
            have hno := Lib.hid (fun hp => HR2.out (all_stop (P := P) hlt hp))
            clear hv hks
            generalize P ks[j] = p at *
            cases p with
            | true =>
              have hy := Lib.hid (hyes.out rfl)
              clear hyes hno
              go_wp2_with fail
              refine hc.mono ?_
              rintro e w5 ⟨rfl, b5⟩
              have K6 := K5.below b5 K5.lt
              have B6 := B.trans (b5.mono B.size)
              clear hc
              go_wp2_with fail
              go_roundw
              case rel => exact ⟨j + 1, by omega, hy, by go_num, K6, B6⟩
              case measure => simp [intOf]; omega
            | false =>
              have hr := hno.out rfl
              clear hyes hno HR1 HR2 HF HPp
              subst hr
              go_wp2_with fail
              refine hc.mono ?_
              rintro e w5 ⟨rfl, b5⟩
              have B6 := B.trans (b5.mono B.size)
              clear hc
              go_wp2_with fail
              go_ret
              exact ⟨rfl, B6⟩
          · have hr := HR1.out (by have := hall.out; rwa [show j = ks.length by omega, List.take_length] at this)
            rw [decide_eq_true h5, Bool.true_or] at hr
            clear HR1 HR2 HF HPp
            subst hr
            go_wp2_with fail
            go_ret
            exact ⟨rfl, B⟩
end Go.Proofs.YthgaljgelngmaaaDoor
end
