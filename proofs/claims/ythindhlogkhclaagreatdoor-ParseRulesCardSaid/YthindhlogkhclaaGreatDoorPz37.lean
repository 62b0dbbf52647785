/-
  SpC: Numbers told in digits: the document's Number of at most seven digits (layer 15), over the loaded program: its contract. No condition.
  SpD: What a text tells: the program's Parse and the document's (layer 15), over the loaded program: each one's contract. No condition.
  LxD: All from its labels on (layer 16): a quoted text; days; a word that is taken. No condition.
-/
import Derived.Test.YthindhlogkhclaaGreatDoorPz36
import Derived.Test.YthindhlogkhclaaGreatDoorPz35
import Derived.Test.YthindhlogkhclaaGreatDoorPz12
set_option linter.unusedVariables false
set_option maxRecDepth 100000
namespace Go.Proofs.YthindhlogkhclaaGreatDoor
section
open Go.RowKit
def numI : Option Nat → Int
  | none => -1
  | some n => (n : Int)
set_option maxHeartbeats 2000000 in
theorem rnumber15_any (l : List UInt8) (hl : l.length ≤ maxLen) (w : World) :
    Calls Tryz.prog 91 #[strV l, .int .i64 7] w fun e w' => e = .returned (.int .i64 (numI (numD l))) ∧ w = w' := by
  have hs : ((⟨l.toArray⟩ : ByteArray).size : Int) = (l.length : Int) := rfl
  have hml : l.length ≤ 9223372036854775807 := by unfold maxLen at hl; omega
  unfold strV
  by_cases q1 : l.length < 1
  · have e : numD l = none := by unfold numD; rw [if_pos (.inl q1)]
    rw [e]
    clear hl
    go_enter Tryz.func91, Tryz.ntmps91
    go_wp2
    go_ret
    exact ⟨rfl, rfl⟩
  by_cases q2 : 7 < l.length
  · have e : numD l = none := by unfold numD; rw [if_pos (.inr (.inl q2))]
    rw [e]
    clear hl
    go_enter Tryz.func91, Tryz.ntmps91
    go_wp2
    go_ret
    exact ⟨rfl, rfl⟩
  obtain ⟨x, hx⟩ : ∃ x, l[0]? = some x := ⟨_, List.getElem?_eq_getElem (by omega)⟩
  have hh : l.head? = some x := by rw [List.head?_eq_getElem?]; exact hx
  have hix := txt_at l 0 x hx
  simp only [Int.natCast_zero] at hix
  by_cases q3 : x = 48 ∧ 1 < l.length
  · have e : numD l = none := by unfold numD; rw [if_pos (.inr (.inr ⟨by rw [hh, q3.1], q3.2⟩))]
    rw [e]
    obtain ⟨q3, q4⟩ := q3
    subst q3
    clear hl hh hx e
    go_enter Tryz.func91, Tryz.ntmps91
    go_wp2
    go_ret
    exact ⟨rfl, rfl⟩
  have hone : ¬ (x = 48 ∧ 1 < l.length) := q3
  have e : numD l = numF 0 l := by
    unfold numD
    rw [if_neg]
    rintro (a | a | ⟨a, b⟩)
    · exact q1 a
    · exact q2 a
    · rw [hh] at a
      exact q3 ⟨Option.some.inj a, b⟩
  rw [e]
  obtain ⟨r, hr⟩ : ∃ r, r = numF 0 l := ⟨_, rfl⟩
  rw [← hr]
  have HR := Lib.hid hr
  have HAT := Lib.hid (txt_at l)
  have hx0 := x.toNat_lt
  have hq : (x.toNat = 48 ∧ ¬ 1 < l.length) ∨ (x.toNat ≠ 48 ∧ ¬ 1 < l.length) ∨ (((x.toNat : Int) == 48) = false ∧ 1 < l.length) := by
    by_cases hc : x.toNat = 48
    · exact .inl ⟨hc, fun h => q3 ⟨UInt8.toNat.inj (by rw [hc]; rfl), h⟩⟩
    · by_cases h1 : 1 < l.length
      · exact .inr (.inr ⟨beq_eq_false_iff_ne.2 (by omega), h1⟩)
      · exact .inr (.inl ⟨hc, h1⟩)
  generalize x.toNat = c at hix hx0 hq
  clear q3 hone e hr hh hx
  obtain ⟨s, hse⟩ : ∃ s : ByteArray, s = ⟨l.toArray⟩ := ⟨_, rfl⟩
  rw [← hse] at hs hix HAT ⊢
  clear hse hl
  rcases hq with ⟨rfl, q4⟩ | ⟨q4, q5⟩ | ⟨q4, q5⟩
  all_goals
    go_enter Tryz.func91, Tryz.ntmps91
    go_wp2
    go_loop [5, 6] (fun n i => ∃ (k m : Nat), k ≤ l.length ∧ i = .int .i64 k ∧ n = .int .i64 m ∧ Hid (numF 0 l = numF m (l.drop k)) ∧ Hid (m < 10 ^ k)) (fun _ i => l.length - (intOf i).toNat)
    case atStart => exact ⟨0, 0, by omega, rfl, rfl, rfl, Nat.one_pos⟩
    case round =>
      clear hix
      obtain ⟨k, m, hk, rfl, rfl, ha, hm⟩ := hrel
      by_cases hlt : k < l.length
      · obtain ⟨y, hy⟩ : ∃ y, l[k]? = some y := ⟨_, List.getElem?_eq_getElem hlt⟩
        have hiy := HAT.out k y hy
        have hyl := y.toNat_lt
        have HST := Lib.hid (numF_step (m := m) hy)
        have HSO := Lib.hid (numF_stop (m := m) hy)
        have hm6 := ten_six (by omega) hm.out
        generalize y.toNat = d at hiy hyl HST HSO
        clear hy HAT
        by_cases b1 : d < 48
        · have e0 : r = none := by rw [HR.out, ha.out, HSO.out (by omega)]
          subst e0
          clear ha HST HSO HR hm
          go_wp2
          go_ret
          exact ⟨rfl, rfl⟩
        by_cases b2 : 57 < d
        · have e0 : r = none := by rw [HR.out, ha.out, HSO.out (by omega)]
          subst e0
          clear ha HST HSO HR hm
          go_wp2
          go_ret
          exact ⟨rfl, rfl⟩
        · have hn := Lib.hid (ha.out.trans (HST.out (by omega) (by omega)))
          have hm2 := Lib.hid (ten_step (d := d - 48) hm.out (by omega))
          obtain ⟨z, hz⟩ : ∃ z, z = d - 48 := ⟨_, rfl⟩
          rw [← hz] at hn hm2
          have ez : IntKind.u8.wrap ((d : Int) - 48) = (z : Int) := by rw [IntKind.wrap_u8]; omega
          clear ha HST HSO HR hm
          go_wp2
          go_round
          case rel => exact ⟨k + 1, 10 * m + z, by omega, by go_num, by go_num, hn, hm2⟩
          case measure => simp [intOf]; omega
      · have e0 : r = some m := by rw [HR.out, ha.out, numF_end (by omega)]
        subst e0
        clear ha HR hm HAT
        go_wp2
        go_ret
        exact ⟨rfl, rfl⟩
end
section
open Go.RowKit
theorem numD_small {l : List UInt8} {n : Nat} (h : numD l = some n) : n < 10000000 := by
  obtain ⟨_, h7, _, hn⟩ := numD_some h
  have := (numF_bounds l 0 n hn).2
  rw [Nat.zero_add, Nat.one_mul] at this
  exact Nat.lt_of_lt_of_le this (by have := Nat.pow_le_pow_right (n := 10) (by decide) h7; simpa using this)
theorem parse_at {l : List UInt8} {n : Nat} {c : UInt8} (hn : l.length = n + 1) (hc : l[n]? = some c) :
    parseD l = if unitD c.toNat = 0 then (0, 2) else match numD (l.take n) with
      | none => (0, 2)
      | some k => daysD (k : Int) c.toNat := by
  have e1 : l.getLast? = some c := by rw [List.getLast?_eq_getElem?, hn]; exact hc
  have e2 : l.dropLast = l.take n := by rw [List.dropLast_eq_take, hn]; rfl
  unfold parseD
  rw [e1, e2]
  rfl
theorem numD_nil : numD [] = none := by unfold numD; rw [if_pos (.inl (by simp))]
def pairV (p : Int × Int) : Value := .tuple #[.int .i64 p.1, .int .i64 p.2]
theorem parse15_any (l : List UInt8) (hl : l.length ≤ maxLen) (w : World) :
    Calls Tryz.prog 27 #[strV l] w fun e w' => e = .returned (pairV (parseD l)) ∧ w = w' := by
  have hs : ((⟨l.toArray⟩ : ByteArray).size : Int) = (l.length : Int) := rfl
  have hml : l.length ≤ 9223372036854775807 := by unfold maxLen at hl; omega
  by_cases q1 : l.length = 0
  · have e : parseD l = (0, 2) := by
      have : l = [] := List.length_eq_zero_iff.1 q1
      subst this
      rfl
    rw [e]
    unfold strV pairV
    have hs : ((⟨l.toArray⟩ : ByteArray).size : Int) = 0 := by rw [hs, q1]; rfl
    have hw : IntKind.i64.wrap ((0 : Int) - 1) = -1 := by rw [IntKind.wrap_i64]; omega
    obtain ⟨s, hse⟩ : ∃ s : ByteArray, s = ⟨l.toArray⟩ := ⟨_, rfl⟩
    rw [← hse] at hs ⊢
    clear hl e q1 hml hse
    go_enter Tryz.func27, Tryz.ntmps27
    go_wp2
    go_ret2
    exact ⟨rfl, rfl⟩
  obtain ⟨n, hn⟩ : ∃ n, l.length = n + 1 := ⟨l.length - 1, by omega⟩
  obtain ⟨c, hc⟩ : ∃ c, l[n]? = some c := ⟨_, List.getElem?_eq_getElem (by omega)⟩
  rw [parse_at hn hc]
  have hix := txt_at l n c hc
  have hsl := txt_to l n (by omega)
  have hsz := size15_any c
  have hnb := number15_any (l.take n) (by rw [List.length_take]; omega)
  have hml2 : n + 1 ≤ 9223372036854775807 := by omega
  have hs : ((⟨l.toArray⟩ : ByteArray).size : Int) = (n : Int) + 1 := by rw [hs, hn]; rfl
  unfold strV at hnb ⊢
  obtain ⟨s, hse⟩ : ∃ s : ByteArray, s = ⟨l.toArray⟩ := ⟨_, rfl⟩
  obtain ⟨s2, hse2⟩ : ∃ s : ByteArray, s = ⟨(l.take n).toArray⟩ := ⟨_, rfl⟩
  rw [← hse2] at hsl hnb
  rw [← hse] at hs hix hsl ⊢
  have hdz : ∀ k : Nat, k < 10000000 → ∀ w, Calls Tryz.prog 54 #[.int .i64 (k : Int), .int .u8 (c.toNat : Int)] w fun e w' => e = .returned (pairV (daysD (k : Int) c.toNat)) ∧ w = w' := fun k hk w => days15_any (k : Int) ⟨by omega, by omega⟩ c w
  have HDZ := Lib.hid hdz
  rcases unit_cases c.toNat with hu | hu
  · rw [if_pos hu]
    rw [hu] at hsz
    generalize c.toNat = b at *
    unfold pairV
    clear hl q1 hnb HDZ hdz hse hse2 hc hn hu hml hsl
    go_enter Tryz.func27, Tryz.ntmps27
    go_wp2_with (go_at_call 52; refine (hsz _).mono ?_; rintro e w' ⟨rfl, rfl⟩)
    go_ret2
    exact ⟨rfl, rfl⟩
  have hu0 : ¬ unitD c.toNat = 0 := by rcases hu with ⟨_, h⟩ | ⟨_, h⟩ | ⟨_, h⟩ | ⟨_, h⟩ <;> omega
  rw [if_neg hu0]
  generalize c.toNat = b at *
  obtain ⟨u, hu⟩ : ∃ u, u = unitD b := ⟨_, rfl⟩
  rw [← hu] at hsz hu0
  have DU : ((u : Int) == 0) = false := beq_eq_false_iff_ne.2 (by omega)
  clear hdz
  cases hd : numD (l.take n) with
  | none =>
    rw [hd] at hnb
    simp only
    simp only [Option.getD_none, Option.isSome_none] at hnb
    unfold pairV
    clear hl q1 HDZ hse hse2 hc hn hu hml hd
    go_enter Tryz.func27, Tryz.ntmps27
    go_wp2_with (first
      | (go_at_call 52; refine (hsz _).mono ?_; rintro e w' ⟨rfl, rfl⟩)
      | (go_at_call 53; refine (hnb _).mono ?_; rintro e w' ⟨rfl, rfl⟩))
    go_ret2
    exact ⟨rfl, rfl⟩
  | some k =>
    rw [hd] at hnb
    simp only
    simp only [Option.getD_some, Option.isSome_some] at hnb
    have hdz := HDZ.out k (numD_small hd)
    clear hl q1 HDZ hse hse2 hc hn hu hml hd
    generalize daysD (k : Int) b = r at *
    unfold pairV at *
    go_enter Tryz.func27, Tryz.ntmps27
    go_wp2_with (first
      | (go_at_call 52; refine (hsz _).mono ?_; rintro e w' ⟨rfl, rfl⟩)
      | (go_at_call 53; refine (hnb _).mono ?_; rintro e w' ⟨rfl, rfl⟩)
      | (go_at_call 54; refine (hdz _).mono ?_; rintro e w' ⟨rfl, rfl⟩))
    go_ret2
    exact ⟨rfl, rfl⟩
theorem rparse15_any (l : List UInt8) (hl : l.length ≤ maxLen) (w : World) :
    Calls Tryz.prog 75 #[strV l] w fun e w' => e = .returned (pairV (parseD l)) ∧ w = w' := by
  have hs : ((⟨l.toArray⟩ : ByteArray).size : Int) = (l.length : Int) := rfl
  have hml : l.length ≤ 9223372036854775807 := by unfold maxLen at hl; omega
  by_cases q1 : l.length < 2
  · have e : parseD l = (0, 2) := by
      match l, q1 with
      | [], _ => rfl
      | [c], _ =>
        rw [parse_at (l := [c]) (n := 0) (c := c) rfl rfl]
        simp only [List.take_zero, numD_nil]
        split <;> rfl
    rw [e]
    unfold strV pairV
    obtain ⟨s, hse⟩ : ∃ s : ByteArray, s = ⟨l.toArray⟩ := ⟨_, rfl⟩
    rw [← hse] at hs ⊢
    clear hl e hml hse
    go_enter Tryz.func75, Tryz.ntmps75
    go_wp2
    go_ret2
    exact ⟨rfl, rfl⟩
  obtain ⟨n, hn⟩ : ∃ n, l.length = n + 1 := ⟨l.length - 1, by omega⟩
  obtain ⟨c, hc⟩ : ∃ c, l[n]? = some c := ⟨_, List.getElem?_eq_getElem (by omega)⟩
  rw [parse_at hn hc]
  have hix := txt_at l n c hc
  have hsl := txt_to l n (by omega)
  have hsz := unit15_any c
  have hnb := rnumber15_any (l.take n) (by rw [List.length_take]; omega)
  have hn1 : 1 ≤ n := by omega
  have hml2 : n + 1 ≤ 9223372036854775807 := by omega
  have hs : ((⟨l.toArray⟩ : ByteArray).size : Int) = (n : Int) + 1 := by rw [hs, hn]; rfl
  unfold strV at hnb ⊢
  obtain ⟨s, hse⟩ : ∃ s : ByteArray, s = ⟨l.toArray⟩ := ⟨_, rfl⟩
  obtain ⟨s2, hse2⟩ : ∃ s : ByteArray, s = ⟨(l.take n).toArray⟩ := ⟨_, rfl⟩
  rw [← hse2] at hsl hnb
  rw [← hse] at hs hix hsl ⊢
  have hdz : ∀ k : Nat, k < 10000000 → ∀ w, Calls Tryz.prog 92 #[.int .i64 (k : Int), .int .u8 (c.toNat : Int)] w fun e w' => e = .returned (pairV (daysD (k : Int) c.toNat)) ∧ w = w' := fun k hk w => rdays15_any (k : Int) ⟨by omega, by omega⟩ c w
  have HDZ := Lib.hid hdz
  rcases unit_cases c.toNat with hu | hu
  · rw [if_pos hu]
    rw [hu] at hsz
    generalize c.toNat = b at *
    unfold pairV
    clear hl q1 hnb HDZ hdz hse hse2 hc hn hu hml hsl
    go_enter Tryz.func75, Tryz.ntmps75
    go_wp2_with (go_at_call 90; refine (hsz _).mono ?_; rintro e w' ⟨rfl, rfl⟩)
    go_ret2
    exact ⟨rfl, rfl⟩
  have hu0 : ¬ unitD c.toNat = 0 := by rcases hu with ⟨_, h⟩ | ⟨_, h⟩ | ⟨_, h⟩ | ⟨_, h⟩ <;> omega
  rw [if_neg hu0]
  generalize c.toNat = b at *
  obtain ⟨u, hu⟩ : ∃ u, u = unitD b := ⟨_, rfl⟩
  rw [← hu] at hsz hu0
  have DU : ((u : Int) == 0) = false := beq_eq_false_iff_ne.2 (by omega)
  clear hdz
  cases hd : numD (l.take n) with
  | none =>
    rw [hd] at hnb
    simp only
    unfold numI at hnb
    unfold pairV
    clear hl q1 HDZ hse hse2 hc hn hu hml hd
    go_enter Tryz.func75, Tryz.ntmps75
    go_wp2_with (first
      | (go_at_call 90; refine (hsz _).mono ?_; rintro e w' ⟨rfl, rfl⟩)
      | (go_at_call 91; refine (hnb _).mono ?_; rintro e w' ⟨rfl, rfl⟩))
    go_ret2
    exact ⟨rfl, rfl⟩
  | some k =>
    rw [hd] at hnb
    simp only
    unfold numI at hnb
    have hdz := HDZ.out k (numD_small hd)
    clear hl q1 HDZ hse hse2 hc hn hu hml hd
    generalize daysD (k : Int) b = r at *
    unfold pairV at *
    go_enter Tryz.func75, Tryz.ntmps75
    go_wp2_with (first
      | (go_at_call 90; refine (hsz _).mono ?_; rintro e w' ⟨rfl, rfl⟩)
      | (go_at_call 91; refine (hnb _).mono ?_; rintro e w' ⟨rfl, rfl⟩)
      | (go_at_call 92; refine (hdz _).mono ?_; rintro e w' ⟨rfl, rfl⟩))
    go_ret2
    exact ⟨rfl, rfl⟩
end
section
open Go.RowKit
theorem drop_next {s : List UInt8} {i : Nat} {c : UInt8} {l : List UInt8} (h : s.drop i = c :: l) : i < s.length ∧ s.drop (i + 1) = l ∧ l.length + 1 + i = s.length := by
  have hl := congrArg List.length h
  rw [List.length_drop, List.length_cons] at hl
  refine ⟨by omega, ?_, by omega⟩
  rw [← List.drop_drop, h]
  rfl
set_option maxHeartbeats 2000000 in
theorem pass_4 (s : List UInt8) (w0 : World) : ∃ rest, findLabel bodyX 4 = some (Code.skip.seq rest) ∧ ∀ m a w, KX s w0 m 4 a w → rest.wp Tryz.prog (JX s w0 m) a w := by
  refine ⟨_, rfl, ?_⟩
  rintro m a w ⟨v, x, y, e, cv, f, acc, row, rfl, H, i, c, l, rfl, rfl, hh, hc, rfl, rfl⟩
  obtain ⟨hi, hd, hlen⟩ := drop_next hh.at_
  have h6 := hh.six
  obtain ⟨j1, hj1⟩ : ∃ j, j = i + 1 := ⟨_, rfl⟩
  have hcut : ∀ W : World, (Instr.slice 9 (strV s) (some (.int .i64 (j1 : Int))) none none).run Tryz.prog W = .ok (strV l) W := by
    have := txt_from s (i + 1) hi
    rw [hd] at this
    rw [hj1]
    exact this
  have hah := ahead_any l (by unfold maxLen; omega) 34
  have hle := takeN_le noQ l
  rw [noQ_is] at hah
  have hsz : ((⟨(l.take (takeN noQ l)).toArray⟩ : ByteArray).size : Int) = (takeN noQ l : Int) := by
    rw [str_size, List.length_take]
    omega
  have hzs : ((⟨s.toArray⟩ : ByteArray).size : Int) = (s.length : Int) := rfl
  have ho : oneC c l = quoteW l := one_quote hc
  obtain ⟨k, hk⟩ : ∃ k, k = takeN noQ l := ⟨_, rfl⟩
  rw [← hk] at hah hle hsz
  obtain ⟨j2, hj2⟩ : ∃ j, j = i + k := ⟨_, rfl⟩
  obtain ⟨j3, hj3⟩ : ∃ j, j = i + k + 2 := ⟨_, rfl⟩
  obtain ⟨j4, hj4⟩ : ∃ j, j = i + k + 1 := ⟨_, rfl⟩
  have hw1 : IntKind.i64.wrap ((i : Int) + 1) = (j1 : Int) := by rw [IntKind.wrap_i64]; omega
  have hw2 : IntKind.i64.wrap ((i : Int) + (k : Int)) = (j2 : Int) := by rw [IntKind.wrap_i64]; omega
  have hw3 : IntKind.i64.wrap ((j2 : Int) + 2) = (j3 : Int) := by rw [IntKind.wrap_i64]; omega
  have hw4 : IntKind.i64.wrap ((j3 : Int) - 1) = (j4 : Int) := by rw [IntKind.wrap_i64]; omega
  have HH := Lib.hid H
  by_cases hq : k < l.length
  · have hmid : ∀ W : World, (Instr.slice 9 (strV s) (some (.int .i64 (j1 : Int))) (some (.int .i64 (j4 : Int))) none).run Tryz.prog W = .ok (strV (l.take k)) W := by
      have := txt_mid s .i64 .i64 (i + 1) (i + k + 1) (by omega) (by omega)
      rw [hd, show i + k + 1 - (i + 1) = k by omega] at this
      rw [hj1, hj4]
      exact this
    have hna := name_any (l.take k)
    have D1 : j3 ≤ s.length := by omega
    cases hn : nameS (l.take k) with
    | true =>
      have he : (oneC c l) = ⟨2, l.take k, 0, k + 2, 0⟩ := by rw [ho]; unfold quoteW; rw [← hk, if_pos ⟨hq, hn⟩]
      rw [hn] at hna
      have HGO := Lib.hid (fun a w' v e cc H => @to_6 s w0 w' (4 * (s.length - i) + 2) i acc a v e cc #[.int .i64 2, strV [], .int .i64 0, .int .i64 (i : Int)] (by omega) c l hh (by rw [he]) j3 (by rw [he]; show j3 = i + (k + 2); omega) H)
      have HR : Hid ((#[.int .i64 2, strV [], .int .i64 0, .int .i64 (i : Int)] : Array Value) = #[.int .i64 ((oneC c l).kind : Int), strV [], .int .i64 (oneC c l).n, .int .i64 (i : Int)]) := by show _ = _; rw [he]; rfl
      unfold strV at *
      generalize (⟨(l.take k).toArray⟩ : ByteArray) = u at *
      generalize (⟨l.toArray⟩ : ByteArray) = t at *
      generalize (⟨s.toArray⟩ : ByteArray) = z at *
      clear H hh hc hle h6 hi ho hk he hn hq hd hlen hj1 hj2 hj3 hj4
      unfold frX
      go_wp2_with (first
        | (go_at_call 25; refine (hah _).mono ?_; rintro e w' ⟨rfl, b⟩; have K := (HH.out.below b).kb; have c0 : w'.cell? ⟨w0.heap.size, 0, none⟩ = some (.int .i64 0) := K.cell 0; have f0 := K.free 0)
        | (go_at_call 26; refine (hna _).mono ?_; rintro e w2 ⟨rfl, b2⟩))
      go_step3
      exact HGO.out _ _ _ _ _ rfl (((HH.out.below b).put 0 _).below b2) HR.out
    | false =>
      have he : oneC c l = badW 2 := by rw [ho]; unfold quoteW; rw [← hk, if_neg (fun h => by rw [hn] at h; exact absurd h.2 (by decide))]
      have hb := all_bad h6 hh.lead hh.at_ hh.no hh.nob (by rw [he]; decide)
      rw [he] at hb
      rw [hn] at hna
      have HGO := Lib.hid (fun a w' v y cc row => @to_0 s w0 w' (4 * (s.length - i) + 2) i acc a v y cc row (by omega) 2 hb)
      unfold strV at *
      generalize (⟨(l.take k).toArray⟩ : ByteArray) = u at *
      generalize (⟨l.toArray⟩ : ByteArray) = t at *
      generalize (⟨s.toArray⟩ : ByteArray) = z at *
      clear H hh hc hle h6 hi ho hk he hn hq hd hlen hj1 hj2 hj3 hj4 hb
      unfold frX
      go_wp2_with (first
        | (go_at_call 25; refine (hah _).mono ?_; rintro e w' ⟨rfl, b⟩; have K := (HH.out.below b).kb; have c0 : w'.cell? ⟨w0.heap.size, 0, none⟩ = some (.int .i64 0) := K.cell 0; have f0 := K.free 0)
        | (go_at_call 26; refine (hna _).mono ?_; rintro e w2 ⟨rfl, b2⟩))
      go_step3
      exact HGO.out _ _ _ _ _ _ rfl (((HH.out.below b).put 0 _).below b2)
  · have he : oneC c l = badW 2 := by rw [ho]; unfold quoteW; rw [← hk, if_neg (fun h => hq h.1)]
    have hb := all_bad h6 hh.lead hh.at_ hh.no hh.nob (by rw [he]; decide)
    rw [he] at hb
    have D1 : ¬ j3 ≤ s.length := by omega
    have HGO := Lib.hid (fun a w' v y cc row => @to_0 s w0 w' (4 * (s.length - i) + 2) i acc a v y cc row (by omega) 2 hb)
    unfold strV at *
    generalize (⟨(l.take k).toArray⟩ : ByteArray) = u at *
    generalize (⟨l.toArray⟩ : ByteArray) = t at *
    generalize (⟨s.toArray⟩ : ByteArray) = z at *
    clear H hh hc hle h6 hi ho hk he hq hd hlen hj1 hj2 hj3 hj4 hb
    unfold frX
    go_wp2_with (go_at_call 25; refine (hah _).mono ?_; rintro e w' ⟨rfl, b⟩; have K := (HH.out.below b).kb; have c0 : w'.cell? ⟨w0.heap.size, 0, none⟩ = some (.int .i64 0) := K.cell 0; have f0 := K.free 0)
    go_step3
    exact HGO.out _ _ _ _ _ _ rfl ((HH.out.below b).put 0 _)
end
end Go.Proofs.YthindhlogkhclaaGreatDoor
