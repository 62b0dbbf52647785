/-
  The document's When (layer 19), over the loaded program: its contract. No condition.
-/
import Derived.Test.YtommcdgognlfcaaDuT
import Derived.Test.YtommcdgognlfcaaSpI
namespace Go.Proofs.Ytommcdgognlfcaa
open Go.RowKit
set_option maxRecDepth 100000
set_option linter.unusedVariables false

set_option maxHeartbeats 4000000 in
/-- When of a condition that is met behind a milestone. -/
theorem rwhen_after (S Sm : Nat → Prop) (ms : List Ml) (vm : Value) (f : Nat) (x : Nx (Ex f)) (v : Value) (w : World) (h1 : x.op = 1) (hm : ML w Sm vm ms) (hv : EV w S (f + 1) v x) :
    Calls Try.prog 10 #[v, vm] w (WhenAs w (mileD ms x.mile x.days)) := by
  obtain ⟨c0, c1, c2, c3, rfl, rfl, hk, rfl, hdy, rfl, hml, hks⟩ := hv
  obtain ⟨A3, cap3, e3, hl3, hm3⟩ := hks.form
  subst e3
  obtain ⟨Am, capm, rfl, hlm, hmm⟩ := hm.form
  have hlen : ms.length ≤ 9223372036854775807 := by unfold maxLen at hmm; omega
  obtain ⟨D, hD⟩ : ∃ D, D = WhenAs w (mileD ms x.mile x.days) := ⟨_, rfl⟩
  rw [← hD]
  have HYES : Hid (∀ (j : Nat) (hj : j < ms.length), (∀ i (hi : i < ms.length), i < j → ms[i].1 ≠ x.mile) → ms[j].1 = x.mile → ∀ W, Below w.heap.size w W → D (.returned (.tuple #[.int .i64 (afterD ms[j].2 x.days).1, .bool (afterD ms[j].2 x.days).2])) W) := fun j hj ha h W hb => by
    rw [hD, mile_at hj (fun i hi => ha i (by omega) hi) h]; exact ⟨rfl, hb⟩
  have HNO : Hid ((∀ i (hi : i < ms.length), ms[i].1 ≠ x.mile) → ∀ W, Below w.heap.size w W → D (.returned (.tuple #[.int .i64 0, .bool false])) W) := fun ha W hb => by
    rw [hD, mile_none ha]; exact ⟨rfl, hb⟩
  clear hD
  have HMB : Hid (∀ (wr : World), Below w.heap.size w wr → ∀ j (hj : j < ms.length), ∃ b o, Am = some ⟨b, o, none⟩ ∧ b < w.heap.size ∧ wr.cell? ⟨b, o + j * 2, none⟩ = some (strV ms[j].1) ∧ wr.cell? ⟨b, o + j * 2 + 1, none⟩ = some (.int .i64 ms[j].2) ∧ I64 ms[j].2 ∧ ms[j].1.length ≤ maxLen) := fun wr hb j hj => mile_b hm rfl hb j hj
  clear hm hks hk hml
  have B0 := (Below.refl w.heap.size w).alloc (Nat.le_refl _) (.cells #[.int .i64 x.op, .int .i64 x.days, strV x.mile, .slice A3 x.kids.length cap3] 24)
  have kb := KB.new w 24 #[.int .i64 x.op, .int .i64 x.days, strV x.mile, .slice A3 x.kids.length cap3]
  rw [h1] at B0 kb ⊢
  clear h1
  generalize x.mile = mi at *
  generalize x.days = dy at *
  generalize x.kids.length = kl at *
  unfold strV at *
  obtain ⟨s, hs⟩ : ∃ s : ByteArray, s = ⟨mi.toArray⟩ := ⟨_, rfl⟩
  rw [← hs] at B0 kb ⊢
  have HSQ := Lib.hid hs
  clear hs
  go_enter Try.func10, Try.ntmps10
  go_wp2_with fail
  go_loopw [6] (fun xv wr => ∃ j : Nat, j ≤ ms.length ∧ xv = .int .i64 j ∧ Hid (∀ i (hi : i < ms.length), i < j → ms[i].1 ≠ mi) ∧ KB wr w.heap.size 24 #[.int .i64 1, .int .i64 dy, .string s, .slice A3 kl cap3] ∧ Below w.heap.size w wr) (fun xv _ => ms.length - (intOf xv).toNat)
  case atStart => exact ⟨0, by omega, rfl, fun i _ h => absurd h (Nat.not_lt_zero _), kb, B0⟩
  case round =>
    clear kb B0
    obtain ⟨j, hj, rfl, hall, K, B⟩ := hrel
    by_cases hlt : j < ms.length
    · have hltI : (j : Int) < (ms.length : Int) := by omega
      obtain ⟨b, o, rfl, hb, k0, k1, hi, _⟩ := HMB.out wr B j hlt
      obtain ⟨s0, hs0⟩ : ∃ s : ByteArray, s = ⟨ms[j].1.toArray⟩ := ⟨_, rfl⟩
      rw [← hs0] at k0
      have gq := eq_txt s0 s _ _ hs0 HSQ.out
      have q2 : wr.cell? ⟨w.heap.size, 2, none⟩ = some (.string s) := K.cell 2
      have q1 : wr.cell? ⟨w.heap.size, 1, none⟩ = some (.int .i64 dy) := K.cell 1
      by_cases hcl : ms[j].1 = mi
      · have HY := Lib.hid (HYES.out j hlt hall.out hcl)
        have ha : ∀ W, Calls Try.prog 25 #[.int .i64 ms[j].2, .int .i64 dy] W fun e w' => e = .returned (.tuple #[.int .i64 (afterD ms[j].2 dy).1, .bool (afterD ms[j].2 dy).2]) ∧ w' = W := fun W => (rafter15_any ms[j].2 dy hi hdy W).mono fun e w' h => ⟨h.1, h.2.symm⟩
        rw [decide_eq_true hcl] at gq
        generalize afterD ms[j].2 dy = r at *
        clear hcl hs0 HYES HNO hall HMB K hi
        generalize ms[j].2 = t at *
        go_wp2_with fail
        go_quiet (fail)
        have B6 := Below_drawn B nq
        have k6 : (wr.drewN nq).cell? ⟨b, o + j * 2 + 1, none⟩ = some (.int .i64 t) := k1
        have q6 : (wr.drewN nq).cell? ⟨w.heap.size, 1, none⟩ = some (.int .i64 dy) := q1
        clear k0 k1 q1 q2 B
        generalize wr.drewN nq = w6 at *
        go_wp2_with fail
        go_quiet (first | (go_at_call 25; exact Calls.quiet_of_same (ha _)) | fail)
        have hfin := HY.out _ (Below_drawn B6 nq)
        clear HY B6
        go_wp2_with fail
        exact hfin
      · rw [decide_eq_false hcl] at gq
        have HN : Hid (∀ i (hi : i < ms.length), i < j + 1 → ms[i].1 ≠ mi) := fun i hi hij => by
          rcases Nat.lt_or_ge i j with h' | h'
          · exact hall.out i hi h'
          · obtain rfl : i = j := by omega
            exact hcl
        clear hall HNO HYES hcl hs0
        generalize ms[j].2 = t at *
        go_wp2_with fail
        go_quiet (fail)
        have B6 := Below_drawn B nq
        have K6 := K.drewN nq
        go_wp2_with fail
        go_roundw
        case rel => exact ⟨j + 1, by omega, by go_num, HN, K6, B6⟩
        case measure => simp [intOf]; omega
    · have hfin := HNO.out (fun i hi => hall.out i hi (by omega)) wr B
      clear hall HNO HYES HMB K
      go_wp2_with fail
      exact hfin

/-- One kid more, of a condition that is none that is met behind a milestone. -/
theorem orS_no {s : Int × Bool} {t : Int} : s = orS s (t, false) := by unfold orS; rw [if_neg fun h => by cases h.1]
theorem orS_new {m t : Int} : (t, true) = orS (m, false) (t, true) := by unfold orS; rw [if_pos ⟨rfl, .inl rfl⟩]
theorem orS_less {m t : Int} (h : t < m) : (t, true) = orS (m, true) (t, true) := by unfold orS; rw [if_pos ⟨rfl, .inr h⟩]
theorem orS_more {m t : Int} (h : ¬ t < m) : (m, true) = orS (m, true) (t, true) := by unfold orS; rw [if_neg fun h9 => by rcases h9.2 with h9 | h9; cases h9; exact h h9]
theorem andS_new {m t : Int} : (t, true) = andS (m, false) (t, true) := by unfold andS; rw [if_pos (.inl rfl)]
theorem andS_more {m t : Int} (h : m < t) : (t, true) = andS (m, true) (t, true) := by unfold andS; rw [if_pos (.inr h)]
theorem andS_less {m t : Int} (h : ¬ m < t) : (m, true) = andS (m, true) (t, true) := by unfold andS; rw [if_neg fun h9 => by rcases h9 with h9 | h9; cases h9; exact h h9]
theorem kidS_or {p s : Int × Bool} : kidS 2 s p = orS s p := by unfold kidS; rw [if_pos rfl]
theorem kidS_and {p s : Int × Bool} : kidS 3 s p = andS s p := by unfold kidS; rw [if_neg (by decide), if_pos rfl]
theorem kidS_none {k : Int} {p s : Int × Bool} (h2 : ¬ k = 2) (h3 : ¬ k = 3) : kidS k s p = s := by unfold kidS; rw [if_neg h2, if_neg h3]

set_option maxHeartbeats 8000000 in
/-- When. -/
theorem rwhen19_any (S Sm : Nat → Prop) (ms : List Ml) (vm : Value) : ∀ (f : Nat) (x : Ex f) (v : Value) (w : World), ML w Sm vm ms → EV w S f v x →
    Calls Try.prog 10 #[v, vm] w (WhenAs w (whenX ms f x)) := by
  intro f
  induction f with
  | zero => intro x; exact nomatch x
  | succ f ih =>
    intro x v w hm hv
    by_cases h1 : (x : Nx (Ex f)).op = 1
    · rw [when_after h1]
      exact rwhen_after S Sm ms vm f x v w h1 hm hv
    obtain ⟨c0, c1, c2, c3, rfl, rfl, hk, rfl, hdy, rfl, hml, hks⟩ := hv
    obtain ⟨A3, cap3, e3, hl3, hm3⟩ := hks.form
    subst e3
    obtain ⟨Am, capm, rfl, hlm, hmm⟩ := hm.form
    have hlen : (x : Nx (Ex f)).kids.length ≤ 9223372036854775807 := by unfold maxLen at hm3; omega
    obtain ⟨D, hD⟩ : ∃ D, D = WhenAs w (whenX ms (f + 1) x) := ⟨_, rfl⟩
    rw [← hD]
    have HSTOP : Hid ((x : Nx (Ex f)).op = 3 → ∀ j (hj : j < (x : Nx (Ex f)).kids.length), (whenX ms f (x : Nx (Ex f)).kids[j]).2 = false → ∀ W, Below w.heap.size w W → D (.returned (.tuple #[.int .i64 0, .bool false])) W) := fun h3 j hj hn W hb => by
      rw [hD, kids_stop h3 hj hn]; exact ⟨rfl, hb⟩
    have HALL : Hid (((x : Nx (Ex f)).op = 3 → ∀ j (hj : j < (x : Nx (Ex f)).kids.length), j < (x : Nx (Ex f)).kids.length → (whenX ms f (x : Nx (Ex f)).kids[j]).2 = true) → ∀ m kn W, (m, kn) = kidsK ms f (x : Nx (Ex f)).op (x : Nx (Ex f)).kids (x : Nx (Ex f)).kids.length → Below w.heap.size w W → D (.returned (.tuple #[.int .i64 m, .bool kn])) W) := fun h3 m kn W he hb => by
      rw [hD, kids_all h1 (fun h j hj => h3 h j hj hj), ← he]; exact ⟨rfl, hb⟩
    clear hD
    have HSTEP : Hid (∀ j (hj : j < (x : Nx (Ex f)).kids.length), kidsK ms f (x : Nx (Ex f)).op (x : Nx (Ex f)).kids (j + 1) = kidS (x : Nx (Ex f)).op (kidsK ms f (x : Nx (Ex f)).op (x : Nx (Ex f)).kids j) (whenX ms f (x : Nx (Ex f)).kids[j])) := fun j hj => kids_step ms f _ _ hj
    have HZ : Hid ((0, false) = kidsK ms f (x : Nx (Ex f)).op (x : Nx (Ex f)).kids 0) := (kids_zero ms f _ _).symm
    have HKID : Hid (∀ (wr : World), Below w.heap.size w wr → ∀ j (hj : j < (x : Nx (Ex f)).kids.length), ∃ b o e0 e1 e2 e3, A3 = some ⟨b, o, none⟩ ∧ b < w.heap.size ∧ wr.cell? ⟨b, o + j * 4, none⟩ = some e0 ∧ wr.cell? ⟨b, o + j * 4 + 1, none⟩ = some e1 ∧ wr.cell? ⟨b, o + j * 4 + 2, none⟩ = some e2 ∧ wr.cell? ⟨b, o + j * 4 + 3, none⟩ = some e3 ∧ EV wr S f (.agg #[e0, e1, e2, e3]) (x : Nx (Ex f)).kids[j] ∧
        Calls Try.prog 10 #[.agg #[e0, e1, e2, e3], .slice Am ms.length capm] wr (WhenAs wr (whenX ms f (x : Nx (Ex f)).kids[j]))) := fun wr hb j hj => by
      obtain ⟨b, o, e0, e1, e2, e3, h1, h2, k0, k1, k2, k3, hx⟩ := kid_b hks rfl hb j hj
      exact ⟨b, o, e0, e1, e2, e3, h1, h2, k0, k1, k2, k3, hx, ih _ _ wr (hm.below' hb) hx⟩
    clear hm hks hk hml ih
    have B0 := (Below.refl w.heap.size w).alloc (Nat.le_refl _) (.cells #[.int .i64 (x : Nx (Ex f)).op, .int .i64 (x : Nx (Ex f)).days, strV (x : Nx (Ex f)).mile, .slice A3 (x : Nx (Ex f)).kids.length cap3] 24)
    have kb := KB.new w 24 #[.int .i64 (x : Nx (Ex f)).op, .int .i64 (x : Nx (Ex f)).days, strV (x : Nx (Ex f)).mile, .slice A3 (x : Nx (Ex f)).kids.length cap3]
    generalize (x : Nx (Ex f)).op = k at *
    generalize (x : Nx (Ex f)).days = dy at *
    generalize (x : Nx (Ex f)).kids = ks at *
    generalize (x : Nx (Ex f)).mile = mi at *
    clear x
    unfold strV at *
    generalize (⟨mi.toArray⟩ : ByteArray) = s at *
    have e1 : (k == 1) = false := beq_eq_false_iff_ne.2 h1
    go_enter Try.func10, Try.ntmps10
    go_wp2_with fail
    clear e1
    go_loopw [7, 8, 9] (fun mv kv xv wr => ∃ (j : Nat) (m : Int) (kn : Bool), j ≤ ks.length ∧ mv = .int .i64 m ∧ kv = .bool kn ∧ xv = .int .i64 j ∧ Hid ((m, kn) = kidsK ms f k ks j) ∧ Hid (k = 3 → ∀ i (hi : i < ks.length), i < j → (whenX ms f ks[i]).2 = true) ∧
      KB wr w.heap.size 24 #[.int .i64 k, .int .i64 dy, .string s, .slice A3 ks.length cap3] ∧ Below w.heap.size w wr) (fun _ _ xv _ => ks.length - (intOf xv).toNat)
    case atStart => exact ⟨0, 0, false, by omega, rfl, rfl, rfl, HZ, fun _ i _ h => absurd h (Nat.not_lt_zero _), kb, B0⟩
    case round =>
      clear kb B0 HZ
      obtain ⟨j, m, kn, hj, rfl, rfl, rfl, hmk, hall, K, B⟩ := hrel
      have q3 : wr.cell? ⟨w.heap.size, 3, none⟩ = some (.slice A3 ks.length cap3) := K.cell 3
      by_cases hlt : j < ks.length
      · have hltI : (j : Int) < (ks.length : Int) := by omega
        obtain ⟨b, o, e0, e1, e2, e3, rfl, hb, k0, k1, k2, k3, hx, hc⟩ := HKID.out wr B j hlt
        have hst := HSTEP.out j hlt
        rw [← hmk.out] at hst
        have HST := Lib.hid hst
        clear hst hmk
        have HNO := Lib.hid (fun h3 hn => HSTOP.out h3 j hlt hn)
        have HYE : Hid (k = 3 → (whenX ms f ks[j]).2 = true → ∀ i (hi : i < ks.length), i < j + 1 → (whenX ms f ks[i]).2 = true) := fun h3 hy i hi hij => by
          rcases Nat.lt_or_ge i j with h' | h'
          · exact hall.out h3 i hi h'
          · obtain rfl : i = j := by omega
            exact hy
        clear hall
        have hfo := hx
        obtain ⟨_, _, _, _, e, hx4⟩ := hfo
        injection e with e
        simp only [Array.mk.injEq, List.cons.injEq, and_true] at e
        obtain ⟨rfl, rfl, rfl, rfl⟩ := e
        obtain ⟨i0, i1, l2, X3, n3, z3, rfl, rfl, rfl, rfl⟩ := hx4.form
        unfold strV at *
        generalize (⟨l2.toArray⟩ : ByteArray) = s2 at *
        clear hx4 hx
        obtain ⟨r, hr⟩ : ∃ r, r = whenX ms f ks[j] := ⟨_, rfl⟩
        rw [← hr] at hc
        rw [← hr] at HST HNO HYE
        clear hr
        obtain ⟨t, ok⟩ := r
        go_wp2_with fail
        refine hc.mono ?_
        rintro e w5 ⟨rfl, b5⟩
        have B5 := B.trans (b5.mono B.size)
        have K5 := K.below b5 K.lt
        have p0 : w5.cell? ⟨w.heap.size, 0, none⟩ = some (.int .i64 k) := K5.cell 0
        clear hc b5 k0 k1 k2 k3 q3 HKID HSTEP
        by_cases k2 : k = 2
        · subst k2
          have HA : Hid ((2 : Int) = 3 → ∀ i (hi : i < ks.length), i < j + 1 → (whenX ms f ks[i]).2 = true) := fun h => absurd h (by decide)
          cases ok with
          | false =>
            have HV : Hid ((m, kn) = kidsK ms f _ ks (j + 1)) := orS_no.trans (kidS_or.symm.trans HST.out.symm)
            clear HST HYE HNO
            go_wp2_with fail
            go_roundw
            case rel => exact ⟨j + 1, m, kn, by omega, rfl, rfl, by go_num, HV, HA, K5, B5⟩
            case measure => simp [intOf]; omega
          | true =>
            cases kn with
            | false =>
              have HV : Hid ((t, true) = kidsK ms f _ ks (j + 1)) := orS_new.trans (kidS_or.symm.trans HST.out.symm)
              clear HST HYE HNO
              go_wp2_with fail
              go_roundw
              case rel => exact ⟨j + 1, t, true, by omega, rfl, rfl, by go_num, HV, HA, K5, B5⟩
              case measure => simp [intOf]; omega
            | true =>
              by_cases hl : t < m
              · have d : decide (t < m) = true := decide_eq_true hl
                have HV : Hid ((t, true) = kidsK ms f _ ks (j + 1)) := (orS_less hl).trans (kidS_or.symm.trans HST.out.symm)
                clear HST HYE HNO
                go_wp2_with fail
                go_roundw
                case rel => exact ⟨j + 1, t, true, by omega, rfl, rfl, by go_num, HV, HA, K5, B5⟩
                case measure => simp [intOf]; omega
              · have d : decide (t < m) = false := decide_eq_false hl
                have HV : Hid ((m, true) = kidsK ms f _ ks (j + 1)) := (orS_more hl).trans (kidS_or.symm.trans HST.out.symm)
                clear HST HYE HNO
                go_wp2_with fail
                go_roundw
                case rel => exact ⟨j + 1, m, true, by omega, rfl, rfl, by go_num, HV, HA, K5, B5⟩
                case measure => simp [intOf]; omega
        by_cases k3 : k = 3
        · subst k3
          cases ok with
          | false =>
            have hfin := HNO.out rfl rfl w5 B5
            clear HST HYE HNO HALL HSTOP K5 k2
            go_wp2_with fail
            exact hfin
          | true =>
            have HA : Hid ((3 : Int) = 3 → ∀ i (hi : i < ks.length), i < j + 1 → (whenX ms f ks[i]).2 = true) := fun h => HYE.out h rfl
            cases kn with
            | false =>
              have HV : Hid ((t, true) = kidsK ms f _ ks (j + 1)) := andS_new.trans (kidS_and.symm.trans HST.out.symm)
              clear HST HYE HNO
              go_wp2_with fail
              go_roundw
              case rel => exact ⟨j + 1, t, true, by omega, rfl, rfl, by go_num, HV, HA, K5, B5⟩
              case measure => simp [intOf]; omega
            | true =>
              by_cases hl : m < t
              · have d : decide (m < t) = true := decide_eq_true hl
                have HV : Hid ((t, true) = kidsK ms f _ ks (j + 1)) := (andS_more hl).trans (kidS_and.symm.trans HST.out.symm)
                clear HST HYE HNO
                go_wp2_with fail
                go_roundw
                case rel => exact ⟨j + 1, t, true, by omega, rfl, rfl, by go_num, HV, HA, K5, B5⟩
                case measure => simp [intOf]; omega
              · have d : decide (m < t) = false := decide_eq_false hl
                have HV : Hid ((m, true) = kidsK ms f _ ks (j + 1)) := (andS_less hl).trans (kidS_and.symm.trans HST.out.symm)
                clear HST HYE HNO
                go_wp2_with fail
                go_roundw
                case rel => exact ⟨j + 1, m, true, by omega, rfl, rfl, by go_num, HV, HA, K5, B5⟩
                case measure => simp [intOf]; omega
        have HA : Hid (k = 3 → ∀ i (hi : i < ks.length), i < j + 1 → (whenX ms f ks[i]).2 = true) := fun h => absurd h k3
        have e2 : (k == 2) = false := beq_eq_false_iff_ne.2 k2
        have e3 : (k == 3) = false := beq_eq_false_iff_ne.2 k3
        have HV : Hid ((m, kn) = kidsK ms f _ ks (j + 1)) := (kidS_none k2 k3).symm.trans HST.out.symm
        clear HST HYE HNO
        go_wp2_with fail
        go_roundw
        case rel => exact ⟨j + 1, m, kn, by omega, rfl, rfl, by go_num, HV, HA, K5, B5⟩
        case measure => simp [intOf]; omega
      · obtain rfl : j = ks.length := by omega
        have hfin := HALL.out (fun h3 i hi hl => hall.out h3 i hi hl) m kn wr hmk.out B
        clear HSTOP HALL hall hmk HKID HSTEP K
        go_wp2_with fail
        exact hfin
end Go.Proofs.Ytommcdgognlfcaa
