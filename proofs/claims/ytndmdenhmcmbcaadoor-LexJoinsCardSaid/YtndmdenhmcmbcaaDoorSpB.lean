/-
  Numbers told in digits: the program's number and the document's Number of at most seven digits (layer 15), over the loaded program: each one's contract. No condition.
-/
import Derived.Test.YtndmdenhmcmbcaaDoorSpA
import Derived.Test.YtndmdenhmcmbcaaDoorTxt
import Derived.Test.YtndmdenhmcmbcaaDoorTxs
namespace Go.Proofs.YtndmdenhmcmbcaaDoor
open Go.RowKit
set_option maxRecDepth 100000
set_option linter.unusedVariables false

theorem numF_step {l : List UInt8} {k m : Nat} {x : UInt8} (hx : l[k]? = some x) (h0 : 48 ≤ x.toNat) (h1 : x.toNat ≤ 57) : numF m (l.drop k) = numF (10 * m + (x.toNat - 48)) (l.drop (k + 1)) := by
  obtain ⟨hk, rfl⟩ := List.getElem?_eq_some_iff.1 hx
  rw [List.drop_eq_getElem_cons hk]
  simp only [numF]
  rw [if_pos ⟨h0, h1⟩]
theorem numF_stop {l : List UInt8} {k m : Nat} {x : UInt8} (hx : l[k]? = some x) (h : ¬ (48 ≤ x.toNat ∧ x.toNat ≤ 57)) : numF m (l.drop k) = none := by
  obtain ⟨hk, rfl⟩ := List.getElem?_eq_some_iff.1 hx
  rw [List.drop_eq_getElem_cons hk]
  simp only [numF]
  rw [if_neg h]
theorem numF_end {l : List UInt8} {k m : Nat} (h : l.length ≤ k) : numF m (l.drop k) = some m := by
  rw [List.drop_of_length_le h]; rfl
theorem ten_six {k m : Nat} (hk : k ≤ 6) (hm : m < 10 ^ k) : m < 1000000 :=
  Nat.lt_of_lt_of_le hm (by have := Nat.pow_le_pow_right (n := 10) (by decide) hk; simpa using this)
theorem ten_step {k m d : Nat} (hm : m < 10 ^ k) (hd : d < 10) : 10 * m + d < 10 ^ (k + 1) := by
  rw [Nat.pow_succ]; omega

set_option maxHeartbeats 2000000 in
/-- number. -/
theorem number15_any (l : List UInt8) (hl : l.length ≤ maxLen) (w : World) :
    Calls Tryd.prog 28 #[strV l] w fun e w' => e = .returned (.tuple #[.int .i64 (((numD l).getD 0 : Nat) : Int), .bool (numD l).isSome]) ∧ w = w' := by
  have hs : ((⟨l.toArray⟩ : ByteArray).size : Int) = (l.length : Int) := rfl
  have hml : l.length ≤ 9223372036854775807 := by unfold maxLen at hl; omega
  unfold strV
  by_cases q1 : l.length < 1
  · have e : numD l = none := by unfold numD; rw [if_pos (.inl q1)]
    rw [e]
    clear hl
    go_enter Tryd.func28, Tryd.ntmps28
    go_wp2
    go_ret2
    exact ⟨rfl, rfl⟩
  by_cases q2 : 7 < l.length
  · have e : numD l = none := by unfold numD; rw [if_pos (.inr (.inl q2))]
    rw [e]
    clear hl
    go_enter Tryd.func28, Tryd.ntmps28
    go_wp2
    go_ret2
    exact ⟨rfl, rfl⟩
  obtain ⟨x, hx⟩ : ∃ x, l[0]? = some x := ⟨_, List.getElem?_eq_getElem (by omega)⟩
  have hh : l.head? = some x := by rw [List.head?_eq_getElem?]; exact hx
  have hix := txt_at l 0 x hx
  simp only [Int.natCast_zero] at hix
  by_cases q3 : x = 48 ∧ 1 < l.length
  · have e : numD l = none := by unfold numD; rw [if_pos (.inr (.inr ⟨by rw [hh, q3.1], q3.2⟩))]
    rw [e]
    obtain ⟨q3, q4⟩ := q3
    subst q3
    clear hl hh hx e
    go_enter Tryd.func28, Tryd.ntmps28
    go_wp2
    go_ret2
    exact ⟨rfl, rfl⟩
  have hone : ¬ (x = 48 ∧ 1 < l.length) := q3
  have e : numD l = numF 0 l := by
    unfold numD
    rw [if_neg]
    rintro (a | a | ⟨a, b⟩)
    · exact q1 a
    · exact q2 a
    · rw [hh] at a
      exact q3 ⟨Option.some.inj a, b⟩
  rw [e]
  obtain ⟨r, hr⟩ : ∃ r, r = numF 0 l := ⟨_, rfl⟩
  rw [← hr]
  have HR := Lib.hid hr
  have HAT := Lib.hid (txt_at l)
  have hx0 := x.toNat_lt
  have hq : (x.toNat = 48 ∧ ¬ 1 < l.length) ∨ x.toNat ≠ 48 := by
    by_cases hc : x.toNat = 48
    · exact .inl ⟨hc, fun h => q3 ⟨UInt8.toNat.inj (by rw [hc]; rfl), h⟩⟩
    · exact .inr hc
  generalize x.toNat = c at hix hx0 hq
  clear q3 hone e hr hh hx
  obtain ⟨s, hse⟩ : ∃ s : ByteArray, s = ⟨l.toArray⟩ := ⟨_, rfl⟩
  rw [← hse] at hs hix HAT ⊢
  clear hse hl
  rcases hq with ⟨rfl, q4⟩ | q4
  all_goals
    go_enter Tryd.func28, Tryd.ntmps28
    go_wp2
    go_loop [4, 26] (fun n i => ∃ (k m : Nat), k ≤ l.length ∧ i = .int .i64 k ∧ n = .int .i64 m ∧ Hid (numF 0 l = numF m (l.drop k)) ∧ Hid (m < 10 ^ k)) (fun _ i => l.length - (intOf i).toNat)
    case atStart => exact ⟨0, 0, by omega, rfl, rfl, rfl, Nat.one_pos⟩
    case round =>
      clear hix
      obtain ⟨k, m, hk, rfl, rfl, ha, hm⟩ := hrel
      by_cases hlt : k < l.length
      · obtain ⟨y, hy⟩ : ∃ y, l[k]? = some y := ⟨_, List.getElem?_eq_getElem hlt⟩
        have hiy := HAT.out k y hy
        have hyl := y.toNat_lt
        have HST := Lib.hid (numF_step (m := m) hy)
        have HSO := Lib.hid (numF_stop (m := m) hy)
        have hm6 := ten_six (by omega) hm.out
        generalize y.toNat = d at hiy hyl HST HSO
        clear hy HAT
        by_cases b1 : d < 48
        · have e0 : r = none := by rw [HR.out, ha.out, HSO.out (by omega)]
          subst e0
          clear ha HST HSO HR hm
          go_wp2
          go_ret2
          exact ⟨rfl, rfl⟩
        by_cases b2 : 57 < d
        · have e0 : r = none := by rw [HR.out, ha.out, HSO.out (by omega)]
          subst e0
          clear ha HST HSO HR hm
          go_wp2
          go_ret2
          exact ⟨rfl, rfl⟩
        · have hn := Lib.hid (ha.out.trans (HST.out (by omega) (by omega)))
          have hm2 := Lib.hid (ten_step (d := d - 48) hm.out (by omega))
          obtain ⟨z, hz⟩ : ∃ z, z = d - 48 := ⟨_, rfl⟩
          rw [← hz] at hn hm2
          have ez : IntKind.u8.wrap ((d : Int) - 48) = (z : Int) := by rw [IntKind.wrap_u8]; omega
          clear ha HST HSO HR hm
          go_wp2
          go_round
          case rel => exact ⟨k + 1, 10 * m + z, by omega, by go_num, by go_num, hn, hm2⟩
          case measure => simp [intOf]; omega
      · have e0 : r = some m := by rw [HR.out, ha.out, numF_end (by omega)]
        subst e0
        clear ha HR hm HAT
        go_wp2
        go_ret2
        exact ⟨rfl, rfl⟩
end Go.Proofs.YtndmdenhmcmbcaaDoor
