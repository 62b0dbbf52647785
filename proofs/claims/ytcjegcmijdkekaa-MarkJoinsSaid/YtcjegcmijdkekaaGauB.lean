/-
  Pow and Inv of gauss, over the loaded program: each one's contract. No condition but the sizes that each contract names.
-/
import Derived.Test.YtcjegcmijdkekaaGauA
namespace Go.Proofs.Ytcjegcmijdkekaa
open Go.RowKit Gau
set_option linter.unusedVariables false

theorem cz_one : Value.complex .f64 4607182418800017408 0 = cz one := by
  have h1 : fl 1 = 4607182418800017408 := by decide
  show _ = Value.complex .f64 (fl 1) (fl 0)
  rw [h1, fl_zero]

theorem cz_zero : Value.complex .f64 0 0 = cz zero := by
  show _ = Value.complex .f64 (fl 0) (fl 0)
  rw [fl_zero]

theorem pow_nat (a : G) (n : Nat) (hn : n ≤ 9223372036854775807) (w : World) :
    Calls Try.prog 23 #[cz a, .int .i64 n] w fun e w' => e = .returned (cz (gpow a n)) ∧ w = w' := by
  obtain ⟨r, hr⟩ : ∃ r, r = gpow a n := ⟨_, rfl⟩
  have HG : Hid (gmul one (gpow a n) = r) := (one_mul _).trans hr.symm
  rw [← hr]
  clear hr
  have HW : IntKind.u64.wrap (n : Int) = n := by rw [IntWalk.u64_in _ (by omega)]
  have H1 := Lib.hid cz_one
  have hb : ¬ (n : Int) < 0 := by omega
  go_enter Try.func23, Try.ntmps23
  go_wp2
  go_loop [0, 5, 8] (fun av lv pv => ∃ (x y : G) (m : Nat), Hid (gmul y (gpow x m) = r) ∧ Hid (m < 18446744073709551616) ∧ av = cz x ∧ lv = .int .u64 m ∧ pv = cz y) (fun _ lv _ => (intOf lv).toNat)
  case atStart => exact ⟨a, one, n, HG, Lib.hid (by omega), rfl, rfl, H1.out⟩
  case round =>
    obtain ⟨x, y, m, hr, hm, rfl, rfl, rfl⟩ := hrel
    by_cases h0 : m = 0
    · subst h0
      go_wp2
      go_ret
      have e := hr.out
      rw [gpow_zero, mul_one] at e
      rw [e]
      exact ⟨rfl, rfl⟩
    · have hp : 0 < m := by omega
      have EW : IntKind.u64.wrap ((m : Int) / 2) = ((m / 2 : Nat) : Int) := by
        have := hm.out
        rw [IntWalk.u64_in _ (by omega)]; omega
      by_cases h2 : (m : Int) % 2 = 1
      · have HN : Hid (gmul (gmul y x) (gpow (gmul x x) (m / 2)) = r) := (gpow_odd y x m (by omega)).symm.trans hr.out
        have HM : Hid (m / 2 < 18446744073709551616) := by
          have := hm.out
          show _ < _
          omega
        go_wp2_with fail
        refine (mul_any y x _).mono ?_
        rintro e w' ⟨rfl, rfl⟩
        go_wp2_with fail
        refine (mul_any x x _).mono ?_
        rintro e w' ⟨rfl, rfl⟩
        go_wp2
        go_round
        case rel => exact ⟨gmul x x, gmul y x, m / 2, HN, HM, rfl, int_eq (by omega), rfl⟩
        case measure => simp [intOf]; omega
      · have HN : Hid (gmul y (gpow (gmul x x) (m / 2)) = r) := (gpow_even y x m (by omega)).symm.trans hr.out
        have HM : Hid (m / 2 < 18446744073709551616) := by
          have := hm.out
          show _ < _
          omega
        go_wp2_with fail
        refine (mul_any x x _).mono ?_
        rintro e w' ⟨rfl, rfl⟩
        go_wp2
        go_round
        case rel => exact ⟨gmul x x, y, m / 2, HN, HM, rfl, int_eq (by omega), rfl⟩
        case measure => simp [intOf]; omega

theorem gof_int (x : F) : gI (x.val : Int) 0 = gof x := by
  unfold gI gof
  rw [ofI_of]; rfl

/-- Whether a number is 0. -/
def isz (a : G) : Bool := decide (a = zero)

theorem inv_zero (w : World) :
    Calls Try.prog 33 #[cz zero] w fun e w' => e = .returned (.tuple #[cz (ginv zero), .bool false]) ∧ w = w' := by
  have hn := norm_any zero
  rw [show (gnorm zero).val = 0 from rfl] at hn
  rw [ginv_zero, ← cz_zero]
  rw [← cz_zero] at hn
  go_enter Try.func33, Try.ntmps33
  go_wp2_with fail
  refine (hn _).mono ?_
  rintro e w' ⟨rfl, rfl⟩
  go_wp2
  go_ret2
  exact ⟨rfl, rfl⟩

theorem inv_some (a : G) (h : a ≠ zero) (w : World) :
    Calls Try.prog 33 #[cz a] w fun e w' => e = .returned (.tuple #[cz (ginv a), .bool true]) ∧ w = w' := by
  have hn := norm_any a
  have hz : ¬ ((gnorm a).val : Int) = 0 := fun e => norm_ne a h (Fin.ext (by
    have : (gnorm a).val = 0 := by omega
    exact this))
  have ho := fun w => of_any ((gnorm a).val : Int) 0 (by omega) (by have := (gnorm a).isLt; omega) (by omega) (by omega) w
  rw [gof_int] at ho
  have hc := conj_any a
  have hp := fun w => pow_nat (gof (gnorm a)) 8189 (by omega) w
  have hm := mul_any (gconj a) (gpow (gof (gnorm a)) 8189)
  rw [show gmul (gconj a) (gpow (gof (gnorm a)) 8189) = ginv a from rfl] at hm
  generalize gpow (gof (gnorm a)) 8189 = p at *
  generalize gof (gnorm a) = q at *
  go_enter Try.func33, Try.ntmps33
  go_wp2_with fail
  refine (hn _).mono ?_
  rintro e w' ⟨rfl, rfl⟩
  go_wp2_with fail
  refine (hc _).mono ?_
  rintro e w' ⟨rfl, rfl⟩
  go_wp2_with fail
  refine (ho _).mono ?_
  rintro e w' ⟨rfl, rfl⟩
  go_wp2_with fail
  refine (hp _).mono ?_
  rintro e w' ⟨rfl, rfl⟩
  go_wp2_with fail
  refine (hm _).mono ?_
  rintro e w' ⟨rfl, rfl⟩
  go_wp2
  go_ret2
  exact ⟨rfl, rfl⟩

theorem inv_any (a : G) (w : World) :
    Calls Try.prog 33 #[cz a] w fun e w' => e = .returned (.tuple #[cz (ginv a), .bool (decide (a ≠ zero))]) ∧ w = w' := by
  by_cases h : a = zero
  · subst h
    rw [show decide ((zero : G) ≠ zero) = false by simp]
    exact inv_zero w
  · rw [show decide (a ≠ zero) = true by simpa using h]
    exact inv_some a h w

/-- The power by a whole number: of one below 0 that of the inverse. -/
def zpow (a : G) (n : Int) : G := if n < 0 then gpow (ginv a) n.natAbs else gpow a n.natAbs

theorem pow_neg_zero (n : Int) (h : n < 0) (h2 : -9223372036854775808 ≤ n) (w : World) :
    Calls Try.prog 23 #[cz zero, .int .i64 n] w fun e w' => e = .returned (cz (zpow zero n)) ∧ w = w' := by
  have e : zpow zero n = zero := by
    unfold zpow
    rw [if_pos h, ginv_zero, gpow_of_zero _ (by omega)]
  rw [e, ← cz_zero]
  have hi := inv_zero
  rw [ginv_zero, ← cz_zero] at hi
  go_enter Try.func23, Try.ntmps23
  go_wp2_with fail
  refine (hi _).mono ?_
  rintro e w' ⟨rfl, rfl⟩
  go_wp2
  go_ret
  exact ⟨rfl, rfl⟩

theorem neg_wrap (n : Int) (h : n < 0) (h2 : -9223372036854775808 ≤ n) : IntKind.u64.wrap (-IntKind.u64.wrap n) = (n.natAbs : Int) := by
  simp [IntKind.wrap, IntKind.bits, IntKind.signed]; omega

theorem pow_neg_some (a : G) (ha : a ≠ zero) (n : Int) (h : n < 0) (h2 : -9223372036854775808 ≤ n) (w : World) :
    Calls Try.prog 23 #[cz a, .int .i64 n] w fun e w' => e = .returned (cz (zpow a n)) ∧ w = w' := by
  obtain ⟨r, hr⟩ : ∃ r, r = gpow (ginv a) n.natAbs := ⟨_, rfl⟩
  have e : zpow a n = r := by
    unfold zpow
    rw [if_pos h, hr]
  rw [e]
  clear e
  have hi := inv_some a ha
  have HW := neg_wrap n h h2
  have HN := Lib.hid (show n.natAbs < 18446744073709551616 by omega)
  generalize n.natAbs = k at *
  have HG : Hid (gmul one (gpow (ginv a) k) = r) := (one_mul _).trans hr.symm
  clear hr
  generalize ginv a = b at *
  have H1 := Lib.hid cz_one
  go_enter Try.func23, Try.ntmps23
  go_wp2_with fail
  refine (hi _).mono ?_
  rintro e w' ⟨rfl, rfl⟩
  go_wp2
  go_loop [0, 5, 8] (fun av lv pv => ∃ (x y : G) (m : Nat), Hid (gmul y (gpow x m) = r) ∧ Hid (m < 18446744073709551616) ∧ av = cz x ∧ lv = .int .u64 m ∧ pv = cz y) (fun _ lv _ => (intOf lv).toNat)
  case atStart => exact ⟨b, one, k, HG, HN, rfl, rfl, H1.out⟩
  case round =>
    obtain ⟨x, y, m, hr, hm, rfl, rfl, rfl⟩ := hrel
    by_cases h0 : m = 0
    · subst h0
      go_wp2
      go_ret
      have e := hr.out
      rw [gpow_zero, mul_one] at e
      rw [e]
      exact ⟨rfl, rfl⟩
    · have hp : 0 < m := by omega
      have EW : IntKind.u64.wrap ((m : Int) / 2) = ((m / 2 : Nat) : Int) := by
        have := hm.out
        rw [IntWalk.u64_in _ (by omega)]; omega
      by_cases h2 : (m : Int) % 2 = 1
      · have HN' : Hid (gmul (gmul y x) (gpow (gmul x x) (m / 2)) = r) := (gpow_odd y x m (by omega)).symm.trans hr.out
        have HM : Hid (m / 2 < 18446744073709551616) := by
          have := hm.out
          show _ < _
          omega
        go_wp2_with fail
        refine (mul_any y x _).mono ?_
        rintro e w' ⟨rfl, rfl⟩
        go_wp2_with fail
        refine (mul_any x x _).mono ?_
        rintro e w' ⟨rfl, rfl⟩
        go_wp2
        go_round
        case rel => exact ⟨gmul x x, gmul y x, m / 2, HN', HM, rfl, int_eq (by omega), rfl⟩
        case measure => simp [intOf]; omega
      · have HN' : Hid (gmul y (gpow (gmul x x) (m / 2)) = r) := (gpow_even y x m (by omega)).symm.trans hr.out
        have HM : Hid (m / 2 < 18446744073709551616) := by
          have := hm.out
          show _ < _
          omega
        go_wp2_with fail
        refine (mul_any x x _).mono ?_
        rintro e w' ⟨rfl, rfl⟩
        go_wp2
        go_round
        case rel => exact ⟨gmul x x, y, m / 2, HN', HM, rfl, int_eq (by omega), rfl⟩
        case measure => simp [intOf]; omega

theorem pow_any (a : G) (n : Int) (h : n ≤ 9223372036854775807) (h2 : -9223372036854775808 ≤ n) (w : World) :
    Calls Try.prog 23 #[cz a, .int .i64 n] w fun e w' => e = .returned (cz (zpow a n)) ∧ w = w' := by
  by_cases hn : n < 0
  · by_cases ha : a = zero
    · subst ha; exact pow_neg_zero n hn h2 w
    · exact pow_neg_some a ha n hn h2 w
  · have e := pow_nat a n.natAbs (by omega) w
    have e2 : zpow a n = gpow a n.natAbs := by unfold zpow; rw [if_neg hn]
    rw [e2]
    rw [show ((n.natAbs : Nat) : Int) = n by omega] at e
    exact e
end Go.Proofs.Ytcjegcmijdkekaa
