/-
  RuC: The document's left, MayExpr, small (layer 17), over the loaded program: each one's contract. No condition but the sizes that each contract names.
  RuD: The document's MayExpr, small and Small (layer 17), over the loaded program: each one's contract. No condition but the sizes that each contract names.
-/
import Derived.Test.YthindhlogkhclaaGreatDoorPz08
import Derived.Test.YthindhlogkhclaaGreatDoorPz10
import Derived.Test.YthindhlogkhclaaGreatDoorPz09
import Derived.WalkSpells
import Derived.BigQuiet
import Derived.Deep.QuietTactic
set_option linter.unusedVariables false
set_option maxRecDepth 100000
namespace Go.Proofs.YthindhlogkhclaaGreatDoor
section
open Go.RowKit
set_option maxHeartbeats 4000000 in
theorem left_any (S : Nat → Prop) : ∀ (f : Nat) (t : Ex f) (v : Value) (n d : Int) (w : World), -1 ≤ n → n ≤ 1000 → -1000 ≤ d → d ≤ 1000 → EV w S f v t →
    Calls Tryz.prog 78 #[v, .int .i64 n, .int .i64 d] w fun e w' => e = .returned (.int .i64 (leftX f t n d)) ∧ Below w.heap.size w w' := by
  intro f
  induction f with
  | zero => intro t; exact nomatch t
  | succ f ih =>
    intro t v n d w hn hn2 hd hd2 hv
    obtain ⟨c0, c1, c2, c3, rfl, rfl, hk, rfl, hdy, rfl, hml, hks⟩ := hv
    obtain ⟨A3, cap3, e3, hl3, hm3, _⟩ := id hks
    subst e3
    obtain ⟨r, hr⟩ : ∃ r, r = leftX (f + 1) t n d := ⟨_, rfl⟩
    rw [← hr]
    have HR := Lib.hid hr
    clear hr
    have hw := rword_any (t : Nx (Ex f)).mile hml
    have HU := Lib.hid (fun h => HR.out.trans (left_unfit (t : Nx (Ex f)) (n := n) (d := d) h))
    have HU1 : Hid ((t : Nx (Ex f)).op ≠ 1 → (t : Nx (Ex f)).op ≠ 2 → (t : Nx (Ex f)).op ≠ 3 → r = -1) := fun a b c => HU.out (unfit_op a b c)
    have HU2 : Hid ((t : Nx (Ex f)).op = 1 → (t : Nx (Ex f)).days < 0 → r = -1) := fun a b => HU.out (unfit_low a b)
    have HU3 : Hid ((t : Nx (Ex f)).op = 1 → 1048576 < (t : Nx (Ex f)).days → r = -1) := fun a b => HU.out (unfit_high a b)
    have HU4 : Hid ((t : Nx (Ex f)).op = 1 → wordS (t : Nx (Ex f)).mile = false → r = -1) := fun a b => HU.out (unfit_word a b)
    have HU5 : Hid ((t : Nx (Ex f)).op = 1 → 0 < (t : Nx (Ex f)).kids.length → r = -1) := fun a b => HU.out (unfit_kids a b)
    have HY1 : Hid ((t : Nx (Ex f)).op = 1 → 0 ≤ (t : Nx (Ex f)).days → (t : Nx (Ex f)).days ≤ 1048576 → wordS (t : Nx (Ex f)).mile = true → (t : Nx (Ex f)).kids.length = 0 → 1 ≤ n → 1 ≤ d → r = n - 1) := fun a b c e g h i => HR.out.trans (left_one (t : Nx (Ex f)) (fit_one a b c e g) g h i)
    have HU6 : Hid ((t : Nx (Ex f)).op ≠ 1 → (t : Nx (Ex f)).days ≠ 0 → r = -1) := fun a b => HU.out (unfit_days a b)
    have HU7 : Hid ((t : Nx (Ex f)).op ≠ 1 → (t : Nx (Ex f)).mile ≠ [] → r = -1) := fun a b => HU.out (unfit_mile a b)
    have HU8 : Hid ((t : Nx (Ex f)).op ≠ 1 → (t : Nx (Ex f)).kids.length < 2 → r = -1) := fun a b => HU.out (unfit_few a b)
    have HU9 : Hid (n - 1 < ((t : Nx (Ex f)).kids.length : Int) → r = -1) := fun a => HR.out.trans (left_wide (t : Nx (Ex f)) a)
    have HF : Hid ((t : Nx (Ex f)).op ≠ 1 → ((t : Nx (Ex f)).op = 2 ∨ (t : Nx (Ex f)).op = 3) → (t : Nx (Ex f)).days = 0 → (t : Nx (Ex f)).mile = [] → ¬ (t : Nx (Ex f)).kids.length < 2 → 1 ≤ d →
      (∀ m : Int, ((((t : Nx (Ex f)).kids.take (t : Nx (Ex f)).kids.length).all fun u => okX f u (d - 1)) = true) → m = n - 1 - (sumX f (t : Nx (Ex f)).kids (t : Nx (Ex f)).kids.length : Int) → 0 ≤ m → r = m)) :=
      fun a b c e g h m h1 h2 h3 => HR.out.trans (left_all (t : Nx (Ex f)) (fit_many a b c e g) h h1 h2 h3)
    have HST : Hid (∀ (m : Int) (j : Nat) (hj : j < (t : Nx (Ex f)).kids.length), m = n - 1 - (sumX f (t : Nx (Ex f)).kids j : Int) → leftX f (t : Nx (Ex f)).kids[j] m (d - 1) < 0 → r = -1) := fun m j hj h1 h2 => HR.out.trans (left_stop (t : Nx (Ex f)) hj h1 h2)
    have HGO : Hid (∀ (m : Int) (j : Nat) (hj : j < (t : Nx (Ex f)).kids.length), m = n - 1 - (sumX f (t : Nx (Ex f)).kids j : Int) → (((t : Nx (Ex f)).kids.take j).all fun u => okX f u (d - 1)) = true → 0 ≤ leftX f (t : Nx (Ex f)).kids[j] m (d - 1) →
      leftX f (t : Nx (Ex f)).kids[j] m (d - 1) = n - 1 - (sumX f (t : Nx (Ex f)).kids (j + 1) : Int) ∧ (((t : Nx (Ex f)).kids.take (j + 1)).all fun u => okX f u (d - 1)) = true) := fun m j hj h1 h2 h3 => left_step (t : Nx (Ex f)) hj h1 h2 h3
    have HLO : Hid (n < 1 → r = -1) := fun h => HR.out.trans (left_low t h)
    have HFL : Hid (d < 1 → r = -1) := fun h => HR.out.trans (left_flat (t : Nx (Ex f)) h)
    clear HU HR
    generalize (t : Nx (Ex f)).op = k at *
    generalize (t : Nx (Ex f)).days = dy at *
    generalize (t : Nx (Ex f)).mile = l at *
    generalize (t : Nx (Ex f)).kids = ks at *
    clear t
    have hlen : ks.length ≤ 9223372036854775807 := by unfold maxLen at hm3; omega
    have hk1 := hk.1
    have hk2 := hk.2
    have W1 : wrap64 (n - 1) = n - 1 := IntWalk.wrap64_in _ (by omega)
    have W2 : wrap64 (d - 1) = d - 1 := IntWalk.wrap64_in _ (by omega)
    have I1 : IntKind.i64.wrap (n - 1) = n - 1 := by rw [IntKind.wrap_i64]; omega
    have I2 : IntKind.i64.wrap (d - 1) = d - 1 := by rw [IntKind.wrap_i64]; omega
    have HM := Lib.hid (ne_not ⟨l.toArray⟩ l [] rfl)
    have HM2 := Lib.hid (ne_if ⟨l.toArray⟩ l [] rfl)
    unfold strV at *
    obtain ⟨s, hs⟩ : ∃ s : ByteArray, s = ⟨l.toArray⟩ := ⟨_, rfl⟩
    rw [← hs] at hw HM HM2 ⊢
    clear hs
    obtain ⟨kl, hkl⟩ : ∃ kl, kl = ks.length := ⟨_, rfl⟩
    rw [← hkl] at hks hl3 hlen HU5 HY1 HU8 HU9 ⊢
    have HKL := Lib.hid hkl
    clear hkl
    have kb := KB.new w 42 #[.int .i64 k, .int .i64 dy, .string s, .slice A3 kl cap3]
    have B0 := (Below.refl w.heap.size w).alloc (Nat.le_refl _) (.cells #[.int .i64 k, .int .i64 dy, .string s, .slice A3 kl cap3] 42)
    by_cases h1 : n < 1
    · obtain rfl := HLO.out h1
      have E := decide_eq_true h1
      clear HLO HFL HU1 HU2 HU3 HU4 HU5 HU6 HU7 HU8 HU9 HY1 HF HST HGO HM HM2 hw
      go_enter Tryz.func78, Tryz.ntmps78
      go_wp2_with fail
      go_ret
      exact ⟨rfl, B0⟩
    have E1 : decide (n < 1) = false := decide_eq_false h1
    by_cases h2 : d < 1
    · obtain rfl := HFL.out h2
      have E := decide_eq_true h2
      clear HLO HFL HU1 HU2 HU3 HU4 HU5 HU6 HU7 HU8 HU9 HY1 HF HST HGO HM HM2 hw
      go_enter Tryz.func78, Tryz.ntmps78
      go_wp2_with fail
      go_ret
      exact ⟨rfl, B0⟩
    have E2 : decide (d < 1) = false := decide_eq_false h2
    clear HLO HFL
    by_cases h3 : k = 1
    · subst h3
      clear HU1 HU6 HU7 HU8 HU9 HF HST HGO HM HM2 ih
      by_cases h4 : dy < 0
      · obtain rfl := HU2.out rfl h4
        have E := decide_eq_true h4
        clear HU2 HU3 HU4 HU5 HY1 hw
        go_enter Tryz.func78, Tryz.ntmps78
        go_wp2_with fail
        go_ret
        exact ⟨rfl, B0⟩
      have E4 : decide (dy < 0) = false := decide_eq_false h4
      by_cases h5 : 1048576 < dy
      · obtain rfl := HU3.out rfl h5
        have E := decide_eq_true h5
        clear HU2 HU3 HU4 HU5 HY1 hw
        go_enter Tryz.func78, Tryz.ntmps78
        go_wp2_with fail
        go_ret
        exact ⟨rfl, B0⟩
      have E5 : decide (1048576 < dy) = false := decide_eq_false h5
      generalize wordS l = wd at *
      cases wd with
      | false =>
        obtain rfl := HU4.out rfl rfl
        clear HU2 HU3 HU4 HU5 HY1
        go_enter Tryz.func78, Tryz.ntmps78
        go_wp2_with fail
        refine (hw _).mono ?_
        rintro e w1 ⟨rfl, rfl⟩
        go_wp2_with fail
        go_ret
        exact ⟨rfl, B0⟩
      | true =>
        by_cases h6 : 0 < kl
        · obtain rfl := HU5.out rfl h6
          have E6 : decide ((0 : Int) < (kl : Int)) = true := decide_eq_true (by omega)
          have E6' : decide (0 < kl) = true := decide_eq_true h6
          clear HU2 HU3 HU4 HU5 HY1
          go_enter Tryz.func78, Tryz.ntmps78
          go_wp2_with fail
          refine (hw _).mono ?_
          rintro e w1 ⟨rfl, rfl⟩
          go_wp2_with fail
          go_ret
          exact ⟨rfl, B0⟩
        · obtain rfl := HY1.out rfl (by omega) (by omega) rfl (by omega) (by omega) (by omega)
          have E6 : decide ((0 : Int) < (kl : Int)) = false := decide_eq_false (by omega)
          have E6' : decide (0 < kl) = false := decide_eq_false h6
          clear HU2 HU3 HU4 HU5 HY1
          go_enter Tryz.func78, Tryz.ntmps78
          go_wp2_with fail
          refine (hw _).mono ?_
          rintro e w1 ⟨rfl, rfl⟩
          go_wp2_with fail
          go_ret
          exact ⟨rfl, B0⟩
    have E3 : (k == 1) = false := beq_eq_false_iff_ne.2 h3
    clear HU2 HU3 HU4 HU5 HY1 hw
    by_cases h4 : k = 2 ∨ k = 3
    case neg =>
      obtain rfl := HU1.out h3 (fun h => h4 (.inl h)) (fun h => h4 (.inr h))
      have E4 : (k != 2) = true := bne_iff_ne.2 (fun h => h4 (.inl h))
      have E5 : (k != 3) = true := bne_iff_ne.2 (fun h => h4 (.inr h))
      clear HU1 HU6 HU7 HU8 HU9 HF HST HGO HM HM2 ih
      go_enter Tryz.func78, Tryz.ntmps78
      go_wp2_with fail
      go_ret
      exact ⟨rfl, B0⟩
    clear HU1
    obtain ⟨b2, E4⟩ : ∃ b, (k != 2) = b := ⟨_, rfl⟩
    have E5 : b2 = true → (k != 3) = false := by
      intro h
      rw [h] at E4
      have := bne_iff_ne.1 E4
      rcases h4 with h4 | h4
      · exact absurd h4 this
      · rw [h4]; rfl
    by_cases h5 : dy = 0
    case neg =>
      obtain rfl := HU6.out h3 h5
      have E6 : (dy != 0) = true := bne_iff_ne.2 h5
      clear HU6 HU7 HU8 HU9 HF HST HGO HM HM2 ih
      go_enter Tryz.func78, Tryz.ntmps78
      cases b2 with
      | true =>
        replace E5 := E5 rfl
        go_wp2_with fail
        go_ret
        exact ⟨rfl, B0⟩
      | false =>
        clear E5
        go_wp2_with fail
        go_ret
        exact ⟨rfl, B0⟩
    subst h5
    clear HU6
    by_cases h6 : l = []
    case neg =>
      obtain rfl := HU7.out h3 h6
      have E6 := (HM2.out h6).2.2
      clear HU7 HU8 HU9 HF HST HGO HM HM2 ih
      go_enter Tryz.func78, Tryz.ntmps78
      cases b2 with
      | true =>
        replace E5 := E5 rfl
        go_wp2_with fail
        go_ret
        exact ⟨rfl, B0⟩
      | false =>
        clear E5
        go_wp2_with fail
        go_ret
        exact ⟨rfl, B0⟩
    have E6 := (HM.out h6).2.2
    clear HU7 HM HM2
    by_cases h7 : kl < 2
    · obtain rfl := HU8.out h3 h7
      have E8 : decide ((kl : Int) < 2) = true := decide_eq_true (by omega)
      have E9 : decide (kl < 2) = true := decide_eq_true h7
      clear HU8 HU9 HF HST HGO ih
      go_enter Tryz.func78, Tryz.ntmps78
      cases b2 with
      | true =>
        replace E5 := E5 rfl
        go_wp2_with fail
        go_ret
        exact ⟨rfl, B0⟩
      | false =>
        clear E5
        go_wp2_with fail
        go_ret
        exact ⟨rfl, B0⟩
    have E8 : decide ((kl : Int) < 2) = false := decide_eq_false (by omega)
    have E9 : decide (kl < 2) = false := decide_eq_false h7
    by_cases h8 : n - 1 < (kl : Int)
    · obtain rfl := HU9.out h8
      have E10 : decide (n - 1 < (kl : Int)) = true := decide_eq_true h8
      clear HU8 HU9 HF HST HGO ih
      go_enter Tryz.func78, Tryz.ntmps78
      cases b2 with
      | true =>
        replace E5 := E5 rfl
        go_wp2_with fail
        go_ret
        exact ⟨rfl, B0⟩
      | false =>
        clear E5
        go_wp2_with fail
        go_ret
        exact ⟨rfl, B0⟩
    have E10 : decide (n - 1 < (kl : Int)) = false := decide_eq_false h8
    have HF2 := Lib.hid (HF.out h3 h4 rfl h6 (by rw [← HKL.out]; exact h7) (by omega))
    have HD2 := Lib.hid h2
    clear HU8 HU9 HF h4 h6
    go_enter Tryz.func78, Tryz.ntmps78
    cases b2 with
    | true =>
      replace E5 := E5 rfl
      go_wp2_with fail
      clear E1 E2 E3 E4 E5 E6 E8 E9 E10
      go_loopw [1, 7] (fun mv iv wr => ∃ (m : Int) (j : Nat), -1 ≤ m ∧ m ≤ 1000 ∧ j ≤ kl ∧ mv = .int .i64 m ∧ iv = .int .i64 j ∧
        Hid ((0 ≤ m ∧ m = n - 1 - (sumX f ks j : Int) ∧ ((ks.take j).all fun u => okX f u (d - 1)) = true) ∨ (m < 0 ∧ r = -1 ∧ m = -1)) ∧
        KB wr w.heap.size 42 #[.int .i64 k, .int .i64 0, .string s, .slice A3 kl cap3] ∧ Below w.heap.size w wr) (fun _ iv _ => kl - (intOf iv).toNat)
      case atStart => exact ⟨n - 1, 0, by omega, by omega, by omega, rfl, rfl, .inl ⟨by omega, by unfold sumX; simp, rfl⟩, kb, B0⟩
      case round =>
        obtain ⟨m, j, hm1, hm2, hj, rfl, rfl, hst, K, B⟩ := hrel
        have q3 : wr.cell? ⟨w.heap.size, 3, none⟩ = some (.slice A3 kl cap3) := K.cell 3
        by_cases hlt : j < kl
        · have hltI : (j : Int) < (kl : Int) := by omega
          by_cases hm0 : 0 ≤ m
          · have hst1 : m = n - 1 - (sumX f ks j : Int) ∧ ((ks.take j).all fun u => okX f u (d - 1)) = true := by
              rcases hst.out with h | h
              · exact h.2
              · omega
            have hjk : j < ks.length := by rw [← HKL.out]; exact hlt
            obtain ⟨b, o, e0, e1, e2, e3, rfl, _, k0, k1, k2, k3, hv⟩ := kid_x hks HKL.out.symm B.size (fun b sb hb => B.block b hb) j hjk
            have hc := ih ks[j] (.agg #[e0, e1, e2, e3]) m (d - 1) wr hm1 hm2 (by omega) (by omega) ⟨e0, e1, e2, e3, rfl, hv⟩
            have hb := left_le ks[j] m (d - 1) hm1
            have HS : Hid (leftX f ks[j] m (d - 1) < 0 → r = -1) := fun h => HST.out m j hjk hst1.1 h
            have HG : Hid (0 ≤ leftX f ks[j] m (d - 1) → leftX f ks[j] m (d - 1) = n - 1 - (sumX f ks (j + 1) : Int) ∧ ((ks.take (j + 1)).all fun u => okX f u (d - 1)) = true) := fun h => HGO.out m j hjk hst1.1 hst1.2 h
            clear hv hst hst1
            generalize leftX f ks[j] m (d - 1) = m5 at *
            go_wp2_with fail
            refine hc.mono ?_
            rintro e w5 ⟨rfl, b5⟩
            have K5 := K.below b5 K.lt
            have B5 := B.trans (b5.mono B.size)
            have HW : Hid ((0 ≤ m5 ∧ m5 = n - 1 - (sumX f ks (j + 1) : Int) ∧ ((ks.take (j + 1)).all fun u => okX f u (d - 1)) = true) ∨ (m5 < 0 ∧ r = -1 ∧ m5 = -1)) := by
              by_cases h : 0 ≤ m5
              · exact .inl ⟨h, HG.out h⟩
              · exact .inr ⟨by omega, HS.out (by omega), by omega⟩
            clear hc HS HG hjk
            go_wp2_with fail
            go_roundw
            case rel => exact ⟨m5, j + 1, by omega, by omega, by omega, rfl, by go_num, HW, K5, B5⟩
            case measure => simp [intOf]; omega
          · have hr : r = -1 ∧ m = -1 := by
              rcases hst.out with h | h
              · omega
              · exact h.2
            obtain ⟨rfl, rfl⟩ := hr
            clear hst HF2 HST HGO
            go_wp2_with fail
            go_ret
            exact ⟨rfl, B⟩
        · obtain rfl : j = kl := by omega
          have hr : r = m := by
            rcases hst.out with h | h
            · have e := HKL.out
              rw [e] at h
              exact HF2.out m h.2.2 h.2.1 h.1
            · rw [h.2.1, h.2.2]
          subst hr
          clear hst HF2 HST HGO
          go_wp2_with fail
          go_ret
          exact ⟨rfl, B⟩
    | false =>
      clear E5
      go_wp2_with fail
      clear E1 E2 E3 E4 E6 E8 E9 E10
      go_loopw [1, 7] (fun mv iv wr => ∃ (m : Int) (j : Nat), -1 ≤ m ∧ m ≤ 1000 ∧ j ≤ kl ∧ mv = .int .i64 m ∧ iv = .int .i64 j ∧
        Hid ((0 ≤ m ∧ m = n - 1 - (sumX f ks j : Int) ∧ ((ks.take j).all fun u => okX f u (d - 1)) = true) ∨ (m < 0 ∧ r = -1 ∧ m = -1)) ∧
        KB wr w.heap.size 42 #[.int .i64 k, .int .i64 0, .string s, .slice A3 kl cap3] ∧ Below w.heap.size w wr) (fun _ iv _ => kl - (intOf iv).toNat)
      case atStart => exact ⟨n - 1, 0, by omega, by omega, by omega, rfl, rfl, .inl ⟨by omega, by unfold sumX; simp, rfl⟩, kb, B0⟩
      case round =>
        obtain ⟨m, j, hm1, hm2, hj, rfl, rfl, hst, K, B⟩ := hrel
        have q3 : wr.cell? ⟨w.heap.size, 3, none⟩ = some (.slice A3 kl cap3) := K.cell 3
        by_cases hlt : j < kl
        · have hltI : (j : Int) < (kl : Int) := by omega
          by_cases hm0 : 0 ≤ m
          · have hst1 : m = n - 1 - (sumX f ks j : Int) ∧ ((ks.take j).all fun u => okX f u (d - 1)) = true := by
              rcases hst.out with h | h
              · exact h.2
              · omega
            have hjk : j < ks.length := by rw [← HKL.out]; exact hlt
            obtain ⟨b, o, e0, e1, e2, e3, rfl, _, k0, k1, k2, k3, hv⟩ := kid_x hks HKL.out.symm B.size (fun b sb hb => B.block b hb) j hjk
            have hc := ih ks[j] (.agg #[e0, e1, e2, e3]) m (d - 1) wr hm1 hm2 (by omega) (by omega) ⟨e0, e1, e2, e3, rfl, hv⟩
            have hb := left_le ks[j] m (d - 1) hm1
            have HS : Hid (leftX f ks[j] m (d - 1) < 0 → r = -1) := fun h => HST.out m j hjk hst1.1 h
            have HG : Hid (0 ≤ leftX f ks[j] m (d - 1) → leftX f ks[j] m (d - 1) = n - 1 - (sumX f ks (j + 1) : Int) ∧ ((ks.take (j + 1)).all fun u => okX f u (d - 1)) = true) := fun h => HGO.out m j hjk hst1.1 hst1.2 h
            clear hv hst hst1
            generalize leftX f ks[j] m (d - 1) = m5 at *
            go_wp2_with fail
            refine hc.mono ?_
            rintro e w5 ⟨rfl, b5⟩
            have K5 := K.below b5 K.lt
            have B5 := B.trans (b5.mono B.size)
            have HW : Hid ((0 ≤ m5 ∧ m5 = n - 1 - (sumX f ks (j + 1) : Int) ∧ ((ks.take (j + 1)).all fun u => okX f u (d - 1)) = true) ∨ (m5 < 0 ∧ r = -1 ∧ m5 = -1)) := by
              by_cases h : 0 ≤ m5
              · exact .inl ⟨h, HG.out h⟩
              · exact .inr ⟨by omega, HS.out (by omega), by omega⟩
            clear hc HS HG hjk
            go_wp2_with fail
            go_roundw
            case rel => exact ⟨m5, j + 1, by omega, by omega, by omega, rfl, by go_num, HW, K5, B5⟩
            case measure => simp [intOf]; omega
          · have hr : r = -1 ∧ m = -1 := by
              rcases hst.out with h | h
              · omega
              · exact h.2
            obtain ⟨rfl, rfl⟩ := hr
            clear hst HF2 HST HGO
            go_wp2_with fail
            go_ret
            exact ⟨rfl, B⟩
        · obtain rfl : j = kl := by omega
          have hr : r = m := by
            rcases hst.out with h | h
            · have e := HKL.out
              rw [e] at h
              exact HF2.out m h.2.2 h.2.1 h.1
            · rw [h.2.1, h.2.2]
          subst hr
          clear hst HF2 HST HGO
          go_wp2_with fail
          go_ret
          exact ⟨rfl, B⟩
end
section
open Go.RowKit
theorem rmay_any (S : Nat → Prop) (f : Nat) (t : Ex f) (v : Value) (w : World) (hv : EV w S f v t) :
    Calls Tryz.prog 45 #[v] w fun e w' => e = .returned (.bool (mayX f t)) ∧ Below w.heap.size w w' := by
  obtain ⟨c0, c1, c2, c3, rfl, ht⟩ := hv
  have hv2 : EV (w.alloc (.cells #[c0, c1, c2, c3] 42)) S f (.agg #[c0, c1, c2, c3]) t := EV.alloc ⟨c0, c1, c2, c3, rfl, ht⟩ _
  have hr := left_any S f t _ 24 8 _ (by omega) (by omega) (by omega) (by omega) hv2
  have hm := left_may t
  clear hv2
  have B0 := (Below.refl w.heap.size w).alloc (Nat.le_refl _) (.cells #[c0, c1, c2, c3] 42)
  obtain ⟨i0, i1, l2, X3, n3, z3, rfl, rfl, rfl, rfl⟩ := ht.form
  unfold strV at *
  clear ht
  generalize leftX f t 24 8 = n at *
  generalize mayX f t = r at *
  subst hm
  go_enter Tryz.func45, Tryz.ntmps45
  go_wp2_with fail
  refine hr.mono ?_
  rintro e w5 ⟨rfl, b5⟩
  have B5 := B0.trans (b5.mono (by simp))
  clear hr
  go_wp2_with fail
  go_ret
  exact ⟨rfl, B5⟩
def SmallOk (f : Nat) (l : List (Rl f)) : Prop := l.length ≤ 20 ∧ ∀ r ∈ l, r.cls.length ≤ 100 ∧ fewX f r.when_
def SmallAs (f : Nat) (l : List (Rl f)) (w : World) (e : Ending) (w' : World) : Prop := ∃ b : Bool, e = .returned (.bool b) ∧ (b = true → SmallOk f l) ∧ Below w.heap.size w w'
end
end Go.Proofs.YthindhlogkhclaaGreatDoor
