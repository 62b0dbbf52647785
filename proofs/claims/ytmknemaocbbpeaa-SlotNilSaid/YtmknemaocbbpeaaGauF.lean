/-
  Whole numbers as floats: what '+', '-', '*', '<' and the conversion back answer of floats that hold whole numbers below 2^53.
  No program, no condition but the sizes that each lemma names.
-/
import Derived.WalkLawsBesides
namespace Go.Proofs.Ytmknemaocbbpeaa.Gau

/-- The float that holds a whole number. -/
def fl (n : Int) : Nat := floatOfInt .f64 n

theorem log2_mul (m k : Nat) (hm : m ≠ 0) : (m * 2 ^ k).log2 = m.log2 + k := by
  have hp : 0 < 2 ^ k := Nat.two_pow_pos k
  have h0 : m * 2 ^ k ≠ 0 := Nat.mul_ne_zero hm (by omega)
  rw [Nat.log2_eq_iff h0]
  have h1 := Nat.log2_self_le hm
  have h2 := @Nat.lt_log2_self m
  constructor
  · rw [Nat.pow_add]; exact Nat.mul_le_mul_right _ h1
  · rw [show m.log2 + k + 1 = m.log2 + 1 + k by omega, Nat.pow_add]
    exact Nat.mul_lt_mul_of_pos_right h2 hp

theorem cut_exact (way : Ieee.Toward) (neg : Bool) (n d : Nat) (h : n % 2 ^ d = 0) (hd : n = 0 ∨ d ≤ n.log2 + 2) : way.cut neg n d = n / 2 ^ d := by
  rcases hd with rfl | hd
  · unfold Ieee.Toward.cut
    cases way <;> cases neg <;> simp
  · unfold Ieee.Toward.cut
    rw [Nat.min_eq_left hd, Nat.shiftLeft_eq, Nat.one_mul]
    simp only []
    rw [h]
    have hp : 0 < 2 ^ d := Nat.two_pow_pos d
    cases way <;> cases neg <;> simp
    all_goals (have : ¬ (2 ^ d = 0) := by omega)
    all_goals simp

/-- A whole number below 2^53, at whatever place it is told, is written in one way. -/
theorem nearest_exact (neg : Bool) (m k : Nat) (hm : m ≠ 0) (h : m < 2 ^ 53) :
    Ieee.double.nearest neg (m * 2 ^ k) (-(k : Int)) = Ieee.double.word neg ((m.log2 + 1022) * 2 ^ 52 + m * 2 ^ (52 - m.log2)) := by
  have hl : m.log2 ≤ 52 := by
    have := (Nat.log2_lt hm).2 h
    omega
  have hp : 0 < 2 ^ k := Nat.two_pow_pos k
  have h0 : m * 2 ^ k ≠ 0 := Nat.mul_ne_zero hm (by omega)
  have e1 : max (-(k : Int) + ((m * 2 ^ k).log2 : Nat) - (Ieee.double.fractionBits : Nat)) Ieee.double.leastPlace = (m.log2 : Int) - 52 := by
    rw [log2_mul m k hm]
    have a : Ieee.double.leastPlace = -1074 := by decide
    have b : Ieee.double.fractionBits = 52 := rfl
    rw [a, b]; omega
  have hcut : Ieee.Toward.cut .even neg ((m * 2 ^ k) <<< (-(k : Int) - ((m.log2 : Int) - 52)).toNat) (((m.log2 : Int) - 52) - -(k : Int)).toNat = m * 2 ^ (52 - m.log2) := by
    rw [Nat.shiftLeft_eq]
    rcases Nat.le_total k (52 - m.log2) with hk | hk
    · rw [show (((m.log2 : Int) - 52) - -(k : Int)).toNat = 0 by omega, show (-(k : Int) - ((m.log2 : Int) - 52)).toNat = 52 - m.log2 - k by omega]
      rw [cut_exact _ _ _ _ (by simp [Nat.mod_one]) (.inr (by omega)), Nat.pow_zero, Nat.div_one, Nat.mul_assoc, ← Nat.pow_add]
      congr 2; omega
    · rw [show (-(k : Int) - ((m.log2 : Int) - 52)).toNat = 0 by omega, Nat.pow_zero, Nat.mul_one, show (((m.log2 : Int) - 52) - -(k : Int)).toNat = k - (52 - m.log2) by omega]
      have e : m * 2 ^ k = m * 2 ^ (52 - m.log2) * 2 ^ (k - (52 - m.log2)) := by
        rw [Nat.mul_assoc, ← Nat.pow_add]; congr 2; omega
      rw [cut_exact _ _ _ _ (by rw [e]; exact Nat.mul_mod_left _ _) (.inr (by rw [log2_mul m k hm]; omega)), e, Nat.mul_div_cancel _ (Nat.two_pow_pos _)]
  unfold Ieee.Format.nearest
  rw [if_neg h0]
  simp only []
  rw [e1, hcut]
  congr 1
  rw [show (((m.log2 : Int) - 52) - Ieee.double.leastPlace).toNat = m.log2 + 1022 by
    rw [show Ieee.double.leastPlace = -1074 by decide]; omega, show Ieee.double.binade = 2 ^ 52 from rfl]
  apply Nat.min_eq_left
  have h3 : m * 2 ^ (52 - m.log2) < 2 ^ 53 := by
    have h2 := @Nat.lt_log2_self m
    calc m * 2 ^ (52 - m.log2) < 2 ^ (m.log2 + 1) * 2 ^ (52 - m.log2) := Nat.mul_lt_mul_of_pos_right h2 (Nat.two_pow_pos _)
      _ = 2 ^ 53 := by rw [← Nat.pow_add]; congr 1; omega
  have h4 : Ieee.double.infRung = 2047 * 2 ^ 52 := by decide
  rw [h4]
  omega

/-- The float x holds the whole number n: read, it is that number at some place. -/
def Holds (x : Nat) (n : Int) : Prop := ∃ k : Nat, Ieee.double.read x = .number (decide (n < 0)) (n.natAbs * 2 ^ k) (-(k : Int))

theorem read_word (neg : Bool) (e f : Nat) (hf : f < 2 ^ 52) (he : e < 2046) :
    Ieee.double.read (Ieee.double.word neg ((e + 1) * 2 ^ 52 + f)) = .number neg (2 ^ 52 + f) (-1074 + e) := by
  have a : Ieee.double.signWeight = 2 ^ 63 := by decide
  have b : Ieee.double.binade = 2 ^ 52 := by decide
  have c : Ieee.double.infRung = 2047 * 2 ^ 52 := by decide
  have d : Ieee.double.leastPlace = -1074 := by decide
  have r1 : (e + 1) * 2 ^ 52 + f < 2 ^ 63 := by omega
  have r2 : Ieee.double.word neg ((e + 1) * 2 ^ 52 + f) % 2 ^ 63 = (e + 1) * 2 ^ 52 + f := by
    unfold Ieee.Format.word; rw [a]; split <;> omega
  have r3 : (Ieee.double.word neg ((e + 1) * 2 ^ 52 + f) / 2 ^ 63 % 2 == 1) = neg := by
    unfold Ieee.Format.word; rw [a]
    cases neg
    · rw [if_neg (by simp)]
      rw [Nat.div_eq_of_lt r1]; rfl
    · rw [if_pos rfl]
      rw [show (2 ^ 63 + ((e + 1) * 2 ^ 52 + f)) / 2 ^ 63 = 1 by omega]; rfl
  unfold Ieee.Format.read
  rw [a, b, c, d]
  simp only []
  rw [r3, r2, if_neg (by omega), if_pos (by omega)]
  rw [show ((e + 1) * 2 ^ 52 + f) % 2 ^ 52 = f by omega, show ((e + 1) * 2 ^ 52 + f) / 2 ^ 52 - 1 = e by omega]

theorem fl_word (n : Int) (h0 : n ≠ 0) (h : n.natAbs < 2 ^ 53) : fl n = Ieee.double.word (decide (n < 0)) ((n.natAbs.log2 + 1022) * 2 ^ 52 + n.natAbs * 2 ^ (52 - n.natAbs.log2)) := by
  have e := nearest_exact (decide (n < 0)) n.natAbs 0 (by omega) h
  rw [Nat.pow_zero, Nat.mul_one] at e
  exact e

theorem rung_split (l f : Nat) : (l + 1022) * 2 ^ 52 + (2 ^ 52 + f) = (l + 1022 + 1) * 2 ^ 52 + f := by omega
theorem place_split (l : Nat) (h : l ≤ 52) : (-1074 + ((l + 1022 : Nat) : Int)) = -((52 - l : Nat) : Int) := by omega
theorem rung_low (f m : Nat) (h : m < 2 ^ 53) (e : 2 ^ 52 + f = m) : f < 2 ^ 52 := by omega

theorem fl_zero : fl 0 = 0 := by decide

theorem fl_holds (n : Int) (h : n.natAbs < 2 ^ 53) : Holds (fl n) n := by
  by_cases h0 : n = 0
  · subst h0
    obtain ⟨k, hk⟩ : ∃ k, k = 1074 := ⟨_, rfl⟩
    refine ⟨k, ?_⟩
    rw [fl_zero, Int.natAbs_zero, Nat.zero_mul, hk]; decide
  · have hm : n.natAbs ≠ 0 := by omega
    rw [fl_word n h0 h]
    have hl : n.natAbs.log2 ≤ 52 := by
      have := (Nat.log2_lt hm).2 h
      omega
    have h1 : 2 ^ 52 ≤ n.natAbs * 2 ^ (52 - n.natAbs.log2) := by
      have := Nat.mul_le_mul_right (2 ^ (52 - n.natAbs.log2)) (Nat.log2_self_le hm)
      rw [← Nat.pow_add, show n.natAbs.log2 + (52 - n.natAbs.log2) = 52 by omega] at this
      exact this
    have h3 : n.natAbs * 2 ^ (52 - n.natAbs.log2) < 2 ^ 53 := by
      have h2 := @Nat.lt_log2_self n.natAbs
      calc n.natAbs * 2 ^ (52 - n.natAbs.log2) < 2 ^ (n.natAbs.log2 + 1) * 2 ^ (52 - n.natAbs.log2) := Nat.mul_lt_mul_of_pos_right h2 (Nat.two_pow_pos _)
        _ = 2 ^ 53 := by rw [← Nat.pow_add]; congr 1; omega
    refine ⟨52 - n.natAbs.log2, ?_⟩
    obtain ⟨f, hf⟩ := Nat.le.dest h1
    have hf2 := rung_low _ _ h3 hf
    clear h1 h3
    rw [← hf, rung_split, read_word _ _ _ hf2 (by omega), place_split _ hl]

theorem write_number (f : Ieee.Format) (neg : Bool) (m : Nat) (e : Int) : f.write (.number neg m e) = f.nearest neg m e := rfl

/-- What holds a whole number, written again at whatever place. -/
theorem write_fl (n : Int) (k : Nat) (h : n.natAbs < 2 ^ 53) : Ieee.double.write (.number (decide (n < 0)) (n.natAbs * 2 ^ k) (-(k : Int))) = fl n := by
  rw [write_number]
  by_cases h0 : n = 0
  · subst h0
    rw [fl_zero]
    unfold Ieee.Format.nearest
    simp [Ieee.Format.word]
  · rw [nearest_exact _ _ _ (by omega) h, fl_word n h0 h]

theorem signed_pow (n : Int) (k j : Nat) : Ieee.signed (decide (n < 0)) (n.natAbs * 2 ^ k) j = n * 2 ^ (k + j) := by
  unfold Ieee.signed
  rw [Nat.shiftLeft_eq, Nat.mul_assoc, ← Nat.pow_add]
  have e : ((2 ^ (k + j) : Nat) : Int) = 2 ^ (k + j) := by simp
  by_cases h : n < 0
  · rw [if_pos (by simpa using h), Int.natCast_mul, e, ← Int.neg_mul]
    congr 1; omega
  · rw [if_neg (by simpa using h), Int.natCast_mul, e]
    congr 1; omega

theorem sum_holds (a b : Int) (k j : Nat) (s t : Bool) (hs : s = decide (a < 0) ∨ a = 0) (ht : t = decide (b < 0) ∨ b = 0) (hst : a = 0 → b = 0 → (s && t) = false) :
    ∃ i : Nat, Ieee.Datum.sum (.number s (a.natAbs * 2 ^ k) (-(k : Int))) (.number t (b.natAbs * 2 ^ j) (-(j : Int))) = some (.number (decide (a + b < 0)) ((a + b).natAbs * 2 ^ i) (-(i : Int))) := by
  have hsg : ∀ (n : Int) (u : Bool) (k j : Nat), (u = decide (n < 0) ∨ n = 0) → Ieee.signed u (n.natAbs * 2 ^ k) j = n * 2 ^ (k + j) := by
    intro n u k j hu
    rcases hu with rfl | rfl
    · exact signed_pow n k j
    · unfold Ieee.signed; cases u <;> simp
  obtain ⟨i, hi⟩ : ∃ i, i = max k j := ⟨_, rfl⟩
  refine ⟨i, ?_⟩
  have eb : min (-(k : Int)) (-(j : Int)) = -(i : Int) := by omega
  unfold Ieee.Datum.sum
  simp only [eb]
  rw [hsg a s k _ hs, hsg b t j _ ht, show k + (-(k : Int) - -(i : Int)).toNat = i by omega, show j + (-(j : Int) - -(i : Int)).toNat = i by omega, ← Int.add_mul]
  have ep : ((2 ^ i : Nat) : Int) = 2 ^ i := by simp
  have hp : 0 < 2 ^ i := Nat.two_pow_pos i
  have hp' : (0 : Int) < 2 ^ i := by rw [← ep]; omega
  have en : ((a + b) * 2 ^ i).natAbs = (a + b).natAbs * 2 ^ i := by rw [Int.natAbs_mul, ← ep]; rfl
  rw [en]
  congr 2
  by_cases h0 : a + b = 0
  · rw [h0, Int.zero_mul, if_pos rfl]
    by_cases ha : a = 0
    · rw [hst ha (by omega)]; rfl
    · rcases hs with rfl | hs
      · rcases ht with rfl | ht
        · by_cases h1 : a < 0
          · have : ¬ b < 0 := by omega
            simp [this]
          · simp [h1]
        · omega
      · omega
  · rw [if_neg (by intro e; rcases Int.mul_eq_zero.1 e with h | h <;> omega)]
    by_cases h1 : a + b < 0
    · have : (a + b) * 2 ^ i < 0 := Int.mul_neg_of_neg_of_pos h1 hp'
      simp [h1, this]
    · have : ¬ (a + b) * 2 ^ i < 0 := Int.not_lt.2 (Int.mul_nonneg (by omega) (by omega))
      simp [h1, this]

theorem add_fl (a b : Int) (ha : a.natAbs < 2 ^ 53) (hb : b.natAbs < 2 ^ 53) (h : (a + b).natAbs < 2 ^ 53) : floatBits .add .f64 (fl a) (fl b) = some (fl (a + b)) := by
  obtain ⟨k, hk⟩ := fl_holds a ha
  obtain ⟨j, hj⟩ := fl_holds b hb
  show ((Ieee.double.read (fl a)).sum (Ieee.double.read (fl b))).map Ieee.double.write = _
  rw [hk, hj]
  obtain ⟨i, hi⟩ := sum_holds a b k j _ _ (.inl rfl) (.inl rfl) (by rintro rfl rfl; rfl)
  rw [hi, Option.map_some, write_fl _ _ h]

theorem sub_fl (a b : Int) (ha : a.natAbs < 2 ^ 53) (hb : b.natAbs < 2 ^ 53) (h : (a - b).natAbs < 2 ^ 53) : floatBits .sub .f64 (fl a) (fl b) = some (fl (a - b)) := by
  obtain ⟨k, hk⟩ := fl_holds a ha
  obtain ⟨j, hj⟩ := fl_holds b hb
  show ((Ieee.double.read (fl a)).sum (Ieee.double.read (fl b)).opposite).map Ieee.double.write = _
  rw [hk, hj]
  obtain ⟨i, hi⟩ := sum_holds a (-b) k j (decide (a < 0)) (!decide (b < 0)) (.inl rfl) (by
    by_cases h0 : b = 0
    · exact .inr (by omega)
    · left
      by_cases h1 : b < 0
      · have : ¬ (-b < 0) := by omega
        rw [decide_eq_true h1, decide_eq_false this]; rfl
      · have : -b < 0 := by omega
        rw [decide_eq_false h1, decide_eq_true this]; rfl) (by rintro rfl _; rfl)
  rw [Int.natAbs_neg] at hi
  show Option.map _ (Ieee.Datum.sum _ (.number (!decide (b < 0)) (b.natAbs * 2 ^ j) (-(j : Int)))) = _
  rw [hi, Option.map_some, ← Int.sub_eq_add_neg, write_fl _ _ h]

theorem mul_fl (a b : Int) (h0 : 0 ≤ a) (h1 : 0 ≤ b) (ha : a.natAbs < 2 ^ 53) (hb : b.natAbs < 2 ^ 53) (h : (a * b).natAbs < 2 ^ 53) : floatBits .mul .f64 (fl a) (fl b) = some (fl (a * b)) := by
  obtain ⟨k, hk⟩ := fl_holds a ha
  obtain ⟨j, hj⟩ := fl_holds b hb
  show ((Ieee.double.read (fl a)).product (Ieee.double.read (fl b))).map Ieee.double.write = _
  rw [hk, hj]
  have e1 : decide (a < 0) = false := by simpa using h0
  have e2 : decide (b < 0) = false := by simpa using h1
  have e3 : decide (a * b < 0) = false := by simpa using Int.mul_nonneg h0 h1
  have e := write_fl (a * b) (k + j) h
  rw [e3] at e
  rw [e1, e2]
  show some (Ieee.double.write (.number false (a.natAbs * 2 ^ k * (b.natAbs * 2 ^ j)) (-(k : Int) + -(j : Int)))) = _
  rw [← e]
  congr 3
  · rw [Int.natAbs_mul, Nat.pow_add]
    generalize 2 ^ k = x
    generalize 2 ^ j = y
    rw [Nat.mul_assoc, Nat.mul_assoc, ← Nat.mul_assoc x, Nat.mul_comm x, Nat.mul_assoc]
  · omega

/-- The conversion back. -/
theorem int_fl (n : Int) (h : n.natAbs < 2 ^ 53) : floatToIntVal .f64 (fl n) .i64 = some n := by
  obtain ⟨k, hk⟩ := fl_holds n h
  unfold floatToIntVal
  have e : (FloatKind.f64.decode (fl n)).toInt .zero = some n := by
    show (Ieee.double.read (fl n)).toInt .zero = some n
    rw [hk]
    unfold Ieee.Datum.toInt Ieee.Datum.integral
    simp only []
    rw [show (-(-(k : Int))).toNat = k by omega, show (-(k : Int)).toNat = 0 by omega, Nat.shiftLeft_eq, Nat.pow_zero, Nat.mul_one]
    rw [cut_exact _ _ _ _ (Nat.mul_mod_left _ _) (by
      by_cases h0 : n.natAbs = 0
      · left; rw [h0, Nat.zero_mul]
      · right; rw [log2_mul _ _ h0]; omega), Nat.mul_div_cancel _ (Nat.two_pow_pos _)]
    have := signed_pow n 0 0
    simpa using this
  have : IntKind.i64.min ≤ n ∧ n ≤ IntKind.i64.max := by
    have a : IntKind.i64.min = -9223372036854775808 := by decide
    have b : IntKind.i64.max = 9223372036854775807 := by decide
    rw [a, b]; omega
  rw [e]
  simp only []
  rw [if_pos this]

theorem order_fl (a b : Int) (x y : Nat) (hx : Holds x a) (hy : Holds y b) : Ieee.double.order x y = some (compare a b) := by
  obtain ⟨k, hk⟩ := hx
  obtain ⟨j, hj⟩ := hy
  obtain ⟨i, hi⟩ : ∃ i, i = max k j := ⟨_, rfl⟩
  have eb : min (-(k : Int)) (-(j : Int)) = -(i : Int) := by omega
  unfold Ieee.Format.order
  rw [hk, hj]
  unfold Ieee.Datum.order
  simp only [eb]
  rw [signed_pow a, signed_pow b, show k + (-(k : Int) - -(i : Int)).toNat = i by omega, show j + (-(j : Int) - -(i : Int)).toNat = i by omega]
  congr 1
  have ep : ((2 ^ i : Nat) : Int) = 2 ^ i := by simp
  have hp : 0 < 2 ^ i := Nat.two_pow_pos i
  have hp' : (0 : Int) < 2 ^ i := by rw [← ep]; omega
  show compareOfLessAndEq _ _ = compareOfLessAndEq _ _
  unfold compareOfLessAndEq
  have h1 : (a * 2 ^ i < b * 2 ^ i) ↔ a < b := Int.mul_lt_mul_right hp'
  have h2 : (a * 2 ^ i = b * 2 ^ i) ↔ a = b := Int.mul_eq_mul_right_iff (by omega)
  simp only [h1, h2]

theorem cmp_scale (a b : Int) (i : Nat) : compare (a * 2 ^ i) (b * 2 ^ i) = compare a b := by
  have ep : ((2 ^ i : Nat) : Int) = 2 ^ i := by simp
  have hp : 0 < 2 ^ i := Nat.two_pow_pos i
  have hp' : (0 : Int) < 2 ^ i := by rw [← ep]; omega
  show compareOfLessAndEq _ _ = compareOfLessAndEq _ _
  unfold compareOfLessAndEq
  have h1 : (a * 2 ^ i < b * 2 ^ i) ↔ a < b := Int.mul_lt_mul_right hp'
  have h2 : (a * 2 ^ i = b * 2 ^ i) ↔ a = b := Int.mul_eq_mul_right_iff (by omega)
  simp only [h1, h2]

/-- Beside a float that holds 2^63 or its negative. -/
theorem order_big (a : Int) (x y : Nat) (t : Bool) (hx : Holds x a) (hy : Ieee.double.read y = .number t (2 ^ 52) 11) :
    Ieee.double.order x y = some (compare a (if t then -9223372036854775808 else 9223372036854775808)) := by
  obtain ⟨k, hk⟩ := hx
  have eb : min (-(k : Int)) 11 = -(k : Int) := by omega
  unfold Ieee.Format.order
  rw [hk, hy]
  unfold Ieee.Datum.order
  simp only [eb]
  rw [signed_pow a, show k + (-(k : Int) - -(k : Int)).toNat = k by omega, show ((11 : Int) - -(k : Int)).toNat = 11 + k by omega]
  have e : Ieee.signed t (2 ^ 52) (11 + k) = (if t then -9223372036854775808 else 9223372036854775808) * 2 ^ k := by
    unfold Ieee.signed
    rw [Nat.shiftLeft_eq, Nat.pow_add, ← Nat.mul_assoc, show 2 ^ 52 * 2 ^ 11 = 9223372036854775808 by decide]
    have ek : ((2 ^ k : Nat) : Int) = 2 ^ k := by simp
    cases t
    · simp only [Bool.false_eq_true, if_false]
      rw [Int.natCast_mul, ek]; rfl
    · simp only [if_true]
      rw [Int.natCast_mul, ek, Int.neg_mul]; rfl
  rw [e, cmp_scale]

theorem cmp_gt {a b : Int} (h : b < a) : compare a b = .gt := by
  show compareOfLessAndEq _ _ = _
  unfold compareOfLessAndEq
  rw [if_neg (by omega), if_neg (by omega)]
theorem cmp_lt {a b : Int} (h : a < b) : compare a b = .lt := by
  show compareOfLessAndEq _ _ = _
  unfold compareOfLessAndEq
  rw [if_pos h]

theorem over_min (n : Int) (h : n.natAbs < 2 ^ 53) : FloatKind.f64.format.order (fl n) 14114281232179134464 = some .gt := by
  have e := order_big n (fl n) 14114281232179134464 true (fl_holds n h) (by decide)
  rw [if_pos rfl, cmp_gt (by omega)] at e
  exact e
theorem below_max (n : Int) (h : n.natAbs < 2 ^ 53) : FloatKind.f64.format.order (fl n) 4890909195324358656 = some .lt := by
  have e := order_big n (fl n) 4890909195324358656 false (fl_holds n h) (by decide)
  rw [if_neg (by simp), cmp_lt (by omega)] at e
  exact e

end Go.Proofs.Ytmknemaocbbpeaa.Gau
