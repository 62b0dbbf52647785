/-
  The document's SameMiles (layer 19), over the loaded program: its contract. No condition.
-/
import Derived.Test.YtommcdgognlfcaaDuP
namespace Go.Proofs.Ytommcdgognlfcaa
open Go.RowKit
set_option maxRecDepth 100000
set_option linter.unusedVariables false

theorem same_miles_stop {l m : List Ml} {j : Nat} (hj : j < l.length) (hj' : j < m.length) (h : ¬ l[j] = m[j]) : decide (l = m) = false := decide_eq_false fun e => by
  subst e; exact h rfl
theorem same_miles_all {l m : List Ml} (h : l.length = m.length) (ha : ∀ j (hj : j < l.length) (hj' : j < m.length), l[j] = m[j]) : decide (l = m) = true := decide_eq_true (List.ext_getElem h fun i h1 h2 => ha i h1 h2)

set_option maxHeartbeats 4000000 in
theorem samem_any (S S' : Nat → Prop) (l m : List Ml) (v v' : Value) (w : World) (hv : ML w S v l) (hv' : ML w S' v' m) :
    Calls Try.prog 14 #[v, v'] w fun e w' => e = .returned (.bool (decide (l = m))) ∧ Below w.heap.size w w' := by
  obtain ⟨A3, cap3, rfl, hl3, hm3⟩ := hv.form
  obtain ⟨A4, cap4, rfl, hl4, hm4⟩ := hv'.form
  have hlen : l.length ≤ 9223372036854775807 := by unfold maxLen at hm3; omega
  by_cases h3 : l.length = m.length
  case neg =>
    rw [decide_eq_false (fun e => h3 (by rw [e]) : ¬ l = m)]
    have g1 : (l.length != m.length) = true := bne_iff_ne.2 h3
    have g2 : ((l.length : Int) != (m.length : Int)) = true := bne_iff_ne.2 (by omega)
    go_enter Try.func14, Try.ntmps14
    go_wp2_with fail
    go_ret
    exact ⟨rfl, Below.refl _ _⟩
  rw [← h3] at hv' ⊢
  have HA : Hid ((∀ j (hj : j < l.length) (hj' : j < m.length), j < l.length → l[j] = m[j]) → decide (l = m) = true) := fun h => same_miles_all h3 fun j h1 h2 => h j h1 h2 h1
  have HN : Hid (∀ j (hj : j < l.length) (hj' : j < m.length), ¬ l[j] = m[j] → decide (l = m) = false) := fun j h1 h2 h => same_miles_stop h1 h2 h
  have H3 := Lib.hid h3
  clear h3
  generalize decide (l = m) = r at *
  go_enter Try.func14, Try.ntmps14
  go_wp2_with fail
  go_loopw [5] (fun xv wr => ∃ j : Nat, j ≤ l.length ∧ Hid (∀ i (hi : i < l.length) (hi' : i < m.length), i < j → l[i] = m[i]) ∧ xv = .int .i64 j ∧ Below w.heap.size w wr) (fun xv _ => l.length - (intOf xv).toNat)
  case atStart => exact ⟨0, by omega, fun i _ _ h => absurd h (Nat.not_lt_zero _), rfl, Below.refl _ _⟩
  case round =>
    obtain ⟨j, hj, hall, rfl, B⟩ := hrel
    by_cases hlt : j < l.length
    · have hltI : (j : Int) < (l.length : Int) := by omega
      have hlt' : j < m.length := by have := H3.out; omega
      obtain ⟨b, o, rfl, hb, k0, k1, _, _⟩ := mile_b hv rfl B j hlt
      obtain ⟨b', o', rfl, hb', m0, m1, _, _⟩ := mile_b hv' H3.out.symm B j hlt'
      obtain ⟨s, hs⟩ : ∃ s : ByteArray, s = ⟨l[j].1.toArray⟩ := ⟨_, rfl⟩
      obtain ⟨s', hs'⟩ : ∃ s : ByteArray, s = ⟨m[j].1.toArray⟩ := ⟨_, rfl⟩
      have gq := eq_txt s s' _ _ hs hs'
      unfold strV at *
      rw [← hs] at k0
      rw [← hs'] at m0
      clear hs hs'
      have HY : Hid (l[j].1 = m[j].1 → l[j].2 = m[j].2 → ∀ i (hi : i < l.length) (hi' : i < m.length), i < j + 1 → l[i] = m[i]) := fun h1 h2 i hi hi' hij => by
        rcases Nat.lt_or_ge i j with h' | h'
        · exact hall.out i hi hi' h'
        · obtain rfl : i = j := by omega
          exact Prod.ext h1 h2
      have HNJ : Hid (¬ (l[j].1 = m[j].1 ∧ l[j].2 = m[j].2) → r = false) := fun h => HN.out j hlt hlt' fun e => h ⟨by rw [e], by rw [e]⟩
      clear hall HN
      by_cases h1 : l[j].1 = m[j].1
      · by_cases h2 : l[j].2 = m[j].2
        · have hy := Lib.hid (HY.out h1 h2)
          rw [decide_eq_true h1] at gq
          rw [← h2] at m1
          have gt : (l[j].2 == l[j].2) = true := beq_self_eq_true _
          clear HY HNJ h1 h2
          generalize l[j].2 = t at *
          go_wp2_with fail
          go_quiet (fail)
          have B6 := Below_drawn B nq
          go_wp2_with fail
          go_roundw
          case rel => exact ⟨j + 1, by omega, hy, by go_num, B6⟩
          case measure => simp [intOf]; omega
        · obtain rfl := HNJ.out fun h => h2 h.2
          rw [decide_eq_true h1] at gq
          have gt : (l[j].2 == m[j].2) = false := beq_eq_false_iff_ne.2 h2
          clear HY HNJ h1 h2 HA
          generalize l[j].2 = t at *
          generalize m[j].2 = t' at *
          go_wp2_with fail
          go_quiet (fail)
          have B6 := Below_drawn B nq
          go_wp2_with fail
          go_ret
          exact ⟨rfl, B6⟩
      · obtain rfl := HNJ.out fun h => h1 h.1
        rw [decide_eq_false h1] at gq
        clear HY HNJ h1 HA
        generalize l[j].2 = t at *
        generalize m[j].2 = t' at *
        go_wp2_with fail
        go_quiet (fail)
        have B6 := Below_drawn B nq
        go_wp2_with fail
        go_ret
        exact ⟨rfl, B6⟩
    · obtain rfl : r = true := HA.out fun i hi hi' hl => hall.out i hi hi' (by omega)
      clear HA HN hall
      go_wp2_with fail
      go_ret
      exact ⟨rfl, B⟩
end Go.Proofs.Ytommcdgognlfcaa
