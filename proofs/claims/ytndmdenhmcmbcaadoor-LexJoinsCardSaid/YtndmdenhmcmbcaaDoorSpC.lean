/-
  Numbers told in digits: the document's Number of at most seven digits (layer 15), over the loaded program: its contract. No condition.
-/
import Derived.Test.YtndmdenhmcmbcaaDoorSpB
namespace Go.Proofs.YtndmdenhmcmbcaaDoor
open Go.RowKit
set_option maxRecDepth 100000
set_option linter.unusedVariables false

/-- A number, or -1. -/
def numI : Option Nat → Int
  | none => -1
  | some n => (n : Int)

set_option maxHeartbeats 2000000 in
/-- The document's Number, of at most seven digits. -/
theorem rnumber15_any (l : List UInt8) (hl : l.length ≤ maxLen) (w : World) :
    Calls Tryd.prog 50 #[strV l, .int .i64 7] w fun e w' => e = .returned (.int .i64 (numI (numD l))) ∧ w = w' := by
  have hs : ((⟨l.toArray⟩ : ByteArray).size : Int) = (l.length : Int) := rfl
  have hml : l.length ≤ 9223372036854775807 := by unfold maxLen at hl; omega
  unfold strV
  by_cases q1 : l.length < 1
  · have e : numD l = none := by unfold numD; rw [if_pos (.inl q1)]
    rw [e]
    clear hl
    go_enter Tryd.func50, Tryd.ntmps50
    go_wp2
    go_ret
    exact ⟨rfl, rfl⟩
  by_cases q2 : 7 < l.length
  · have e : numD l = none := by unfold numD; rw [if_pos (.inr (.inl q2))]
    rw [e]
    clear hl
    go_enter Tryd.func50, Tryd.ntmps50
    go_wp2
    go_ret
    exact ⟨rfl, rfl⟩
  obtain ⟨x, hx⟩ : ∃ x, l[0]? = some x := ⟨_, List.getElem?_eq_getElem (by omega)⟩
  have hh : l.head? = some x := by rw [List.head?_eq_getElem?]; exact hx
  have hix := txt_at l 0 x hx
  simp only [Int.natCast_zero] at hix
  by_cases q3 : x = 48 ∧ 1 < l.length
  · have e : numD l = none := by unfold numD; rw [if_pos (.inr (.inr ⟨by rw [hh, q3.1], q3.2⟩))]
    rw [e]
    obtain ⟨q3, q4⟩ := q3
    subst q3
    clear hl hh hx e
    go_enter Tryd.func50, Tryd.ntmps50
    go_wp2
    go_ret
    exact ⟨rfl, rfl⟩
  have hone : ¬ (x = 48 ∧ 1 < l.length) := q3
  have e : numD l = numF 0 l := by
    unfold numD
    rw [if_neg]
    rintro (a | a | ⟨a, b⟩)
    · exact q1 a
    · exact q2 a
    · rw [hh] at a
      exact q3 ⟨Option.some.inj a, b⟩
  rw [e]
  obtain ⟨r, hr⟩ : ∃ r, r = numF 0 l := ⟨_, rfl⟩
  rw [← hr]
  have HR := Lib.hid hr
  have HAT := Lib.hid (txt_at l)
  have hx0 := x.toNat_lt
  have hq : (x.toNat = 48 ∧ ¬ 1 < l.length) ∨ (x.toNat ≠ 48 ∧ ¬ 1 < l.length) ∨ (((x.toNat : Int) == 48) = false ∧ 1 < l.length) := by
    by_cases hc : x.toNat = 48
    · exact .inl ⟨hc, fun h => q3 ⟨UInt8.toNat.inj (by rw [hc]; rfl), h⟩⟩
    · by_cases h1 : 1 < l.length
      · exact .inr (.inr ⟨beq_eq_false_iff_ne.2 (by omega), h1⟩)
      · exact .inr (.inl ⟨hc, h1⟩)
  generalize x.toNat = c at hix hx0 hq
  clear q3 hone e hr hh hx
  obtain ⟨s, hse⟩ : ∃ s : ByteArray, s = ⟨l.toArray⟩ := ⟨_, rfl⟩
  rw [← hse] at hs hix HAT ⊢
  clear hse hl
  rcases hq with ⟨rfl, q4⟩ | ⟨q4, q5⟩ | ⟨q4, q5⟩
  all_goals
    go_enter Tryd.func50, Tryd.ntmps50
    go_wp2
    go_loop [5, 6] (fun n i => ∃ (k m : Nat), k ≤ l.length ∧ i = .int .i64 k ∧ n = .int .i64 m ∧ Hid (numF 0 l = numF m (l.drop k)) ∧ Hid (m < 10 ^ k)) (fun _ i => l.length - (intOf i).toNat)
    case atStart => exact ⟨0, 0, by omega, rfl, rfl, rfl, Nat.one_pos⟩
    case round =>
      clear hix
      obtain ⟨k, m, hk, rfl, rfl, ha, hm⟩ := hrel
      by_cases hlt : k < l.length
      · obtain ⟨y, hy⟩ : ∃ y, l[k]? = some y := ⟨_, List.getElem?_eq_getElem hlt⟩
        have hiy := HAT.out k y hy
        have hyl := y.toNat_lt
        have HST := Lib.hid (numF_step (m := m) hy)
        have HSO := Lib.hid (numF_stop (m := m) hy)
        have hm6 := ten_six (by omega) hm.out
        generalize y.toNat = d at hiy hyl HST HSO
        clear hy HAT
        by_cases b1 : d < 48
        · have e0 : r = none := by rw [HR.out, ha.out, HSO.out (by omega)]
          subst e0
          clear ha HST HSO HR hm
          go_wp2
          go_ret
          exact ⟨rfl, rfl⟩
        by_cases b2 : 57 < d
        · have e0 : r = none := by rw [HR.out, ha.out, HSO.out (by omega)]
          subst e0
          clear ha HST HSO HR hm
          go_wp2
          go_ret
          exact ⟨rfl, rfl⟩
        · have hn := Lib.hid (ha.out.trans (HST.out (by omega) (by omega)))
          have hm2 := Lib.hid (ten_step (d := d - 48) hm.out (by omega))
          obtain ⟨z, hz⟩ : ∃ z, z = d - 48 := ⟨_, rfl⟩
          rw [← hz] at hn hm2
          have ez : IntKind.u8.wrap ((d : Int) - 48) = (z : Int) := by rw [IntKind.wrap_u8]; omega
          clear ha HST HSO HR hm
          go_wp2
          go_round
          case rel => exact ⟨k + 1, 10 * m + z, by omega, by go_num, by go_num, hn, hm2⟩
          case measure => simp [intOf]; omega
      · have e0 : r = some m := by rw [HR.out, ha.out, numF_end (by omega)]
        subst e0
        clear ha HR hm HAT
        go_wp2
        go_ret
        exact ⟨rfl, rfl⟩
end Go.Proofs.YtndmdenhmcmbcaaDoor
