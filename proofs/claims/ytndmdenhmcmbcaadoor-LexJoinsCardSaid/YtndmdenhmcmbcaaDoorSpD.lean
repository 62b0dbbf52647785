/-
  What a text tells: the program's Parse and the document's (layer 15), over the loaded program: each one's contract. No condition.
-/
import Derived.Test.YtndmdenhmcmbcaaDoorSpC
namespace Go.Proofs.YtndmdenhmcmbcaaDoor
open Go.RowKit
set_option maxRecDepth 100000
set_option linter.unusedVariables false

theorem numD_small {l : List UInt8} {n : Nat} (h : numD l = some n) : n < 10000000 := by
  obtain ⟨_, h7, _, hn⟩ := numD_some h
  have := (numF_bounds l 0 n hn).2
  rw [Nat.zero_add, Nat.one_mul] at this
  exact Nat.lt_of_lt_of_le this (by have := Nat.pow_le_pow_right (n := 10) (by decide) h7; simpa using this)

theorem parse_at {l : List UInt8} {n : Nat} {c : UInt8} (hn : l.length = n + 1) (hc : l[n]? = some c) :
    parseD l = if unitD c.toNat = 0 then (0, 2) else match numD (l.take n) with
      | none => (0, 2)
      | some k => daysD (k : Int) c.toNat := by
  have e1 : l.getLast? = some c := by rw [List.getLast?_eq_getElem?, hn]; exact hc
  have e2 : l.dropLast = l.take n := by rw [List.dropLast_eq_take, hn]; rfl
  unfold parseD
  rw [e1, e2]
  rfl
theorem numD_nil : numD [] = none := by unfold numD; rw [if_pos (.inl (by simp))]

/-- Days and error as a pair. -/
def pairV (p : Int × Int) : Value := .tuple #[.int .i64 p.1, .int .i64 p.2]

/-- Parse. -/
theorem parse15_any (l : List UInt8) (hl : l.length ≤ maxLen) (w : World) :
    Calls Tryd.prog 17 #[strV l] w fun e w' => e = .returned (pairV (parseD l)) ∧ w = w' := by
  have hs : ((⟨l.toArray⟩ : ByteArray).size : Int) = (l.length : Int) := rfl
  have hml : l.length ≤ 9223372036854775807 := by unfold maxLen at hl; omega
  by_cases q1 : l.length = 0
  · have e : parseD l = (0, 2) := by
      have : l = [] := List.length_eq_zero_iff.1 q1
      subst this
      rfl
    rw [e]
    unfold strV pairV
    have hs : ((⟨l.toArray⟩ : ByteArray).size : Int) = 0 := by rw [hs, q1]; rfl
    have hw : IntKind.i64.wrap ((0 : Int) - 1) = -1 := by rw [IntKind.wrap_i64]; omega
    obtain ⟨s, hse⟩ : ∃ s : ByteArray, s = ⟨l.toArray⟩ := ⟨_, rfl⟩
    rw [← hse] at hs ⊢
    clear hl e q1 hml hse
    go_enter Tryd.func17, Tryd.ntmps17
    go_wp2
    go_ret2
    exact ⟨rfl, rfl⟩
  obtain ⟨n, hn⟩ : ∃ n, l.length = n + 1 := ⟨l.length - 1, by omega⟩
  obtain ⟨c, hc⟩ : ∃ c, l[n]? = some c := ⟨_, List.getElem?_eq_getElem (by omega)⟩
  rw [parse_at hn hc]
  have hix := txt_at l n c hc
  have hsl := txt_to l n (by omega)
  have hsz := size15_any c
  have hnb := number15_any (l.take n) (by rw [List.length_take]; omega)
  have hml2 : n + 1 ≤ 9223372036854775807 := by omega
  have hs : ((⟨l.toArray⟩ : ByteArray).size : Int) = (n : Int) + 1 := by rw [hs, hn]; rfl
  unfold strV at hnb ⊢
  obtain ⟨s, hse⟩ : ∃ s : ByteArray, s = ⟨l.toArray⟩ := ⟨_, rfl⟩
  obtain ⟨s2, hse2⟩ : ∃ s : ByteArray, s = ⟨(l.take n).toArray⟩ := ⟨_, rfl⟩
  rw [← hse2] at hsl hnb
  rw [← hse] at hs hix hsl ⊢
  have hdz : ∀ k : Nat, k < 10000000 → ∀ w, Calls Tryd.prog 29 #[.int .i64 (k : Int), .int .u8 (c.toNat : Int)] w fun e w' => e = .returned (pairV (daysD (k : Int) c.toNat)) ∧ w = w' := fun k hk w => days15_any (k : Int) ⟨by omega, by omega⟩ c w
  have HDZ := Lib.hid hdz
  rcases unit_cases c.toNat with hu | hu
  · rw [if_pos hu]
    rw [hu] at hsz
    generalize c.toNat = b at *
    unfold pairV
    clear hl q1 hnb HDZ hdz hse hse2 hc hn hu hml hsl
    go_enter Tryd.func17, Tryd.ntmps17
    go_wp2_with (go_at_call 27; refine (hsz _).mono ?_; rintro e w' ⟨rfl, rfl⟩)
    go_ret2
    exact ⟨rfl, rfl⟩
  have hu0 : ¬ unitD c.toNat = 0 := by rcases hu with ⟨_, h⟩ | ⟨_, h⟩ | ⟨_, h⟩ | ⟨_, h⟩ <;> omega
  rw [if_neg hu0]
  generalize c.toNat = b at *
  obtain ⟨u, hu⟩ : ∃ u, u = unitD b := ⟨_, rfl⟩
  rw [← hu] at hsz hu0
  have DU : ((u : Int) == 0) = false := beq_eq_false_iff_ne.2 (by omega)
  clear hdz
  cases hd : numD (l.take n) with
  | none =>
    rw [hd] at hnb
    simp only
    simp only [Option.getD_none, Option.isSome_none] at hnb
    unfold pairV
    clear hl q1 HDZ hse hse2 hc hn hu hml hd
    go_enter Tryd.func17, Tryd.ntmps17
    go_wp2_with (first
      | (go_at_call 27; refine (hsz _).mono ?_; rintro e w' ⟨rfl, rfl⟩)
      | (go_at_call 28; refine (hnb _).mono ?_; rintro e w' ⟨rfl, rfl⟩))
    go_ret2
    exact ⟨rfl, rfl⟩
  | some k =>
    rw [hd] at hnb
    simp only
    simp only [Option.getD_some, Option.isSome_some] at hnb
    have hdz := HDZ.out k (numD_small hd)
    clear hl q1 HDZ hse hse2 hc hn hu hml hd
    generalize daysD (k : Int) b = r at *
    unfold pairV at *
    go_enter Tryd.func17, Tryd.ntmps17
    go_wp2_with (first
      | (go_at_call 27; refine (hsz _).mono ?_; rintro e w' ⟨rfl, rfl⟩)
      | (go_at_call 28; refine (hnb _).mono ?_; rintro e w' ⟨rfl, rfl⟩)
      | (go_at_call 29; refine (hdz _).mono ?_; rintro e w' ⟨rfl, rfl⟩))
    go_ret2
    exact ⟨rfl, rfl⟩
/-- The document's Parse. -/
theorem rparse15_any (l : List UInt8) (hl : l.length ≤ maxLen) (w : World) :
    Calls Tryd.prog 41 #[strV l] w fun e w' => e = .returned (pairV (parseD l)) ∧ w = w' := by
  have hs : ((⟨l.toArray⟩ : ByteArray).size : Int) = (l.length : Int) := rfl
  have hml : l.length ≤ 9223372036854775807 := by unfold maxLen at hl; omega
  by_cases q1 : l.length < 2
  · have e : parseD l = (0, 2) := by
      match l, q1 with
      | [], _ => rfl
      | [c], _ =>
        rw [parse_at (l := [c]) (n := 0) (c := c) rfl rfl]
        simp only [List.take_zero, numD_nil]
        split <;> rfl
    rw [e]
    unfold strV pairV
    obtain ⟨s, hse⟩ : ∃ s : ByteArray, s = ⟨l.toArray⟩ := ⟨_, rfl⟩
    rw [← hse] at hs ⊢
    clear hl e hml hse
    go_enter Tryd.func41, Tryd.ntmps41
    go_wp2
    go_ret2
    exact ⟨rfl, rfl⟩
  obtain ⟨n, hn⟩ : ∃ n, l.length = n + 1 := ⟨l.length - 1, by omega⟩
  obtain ⟨c, hc⟩ : ∃ c, l[n]? = some c := ⟨_, List.getElem?_eq_getElem (by omega)⟩
  rw [parse_at hn hc]
  have hix := txt_at l n c hc
  have hsl := txt_to l n (by omega)
  have hsz := unit15_any c
  have hnb := rnumber15_any (l.take n) (by rw [List.length_take]; omega)
  have hn1 : 1 ≤ n := by omega
  have hml2 : n + 1 ≤ 9223372036854775807 := by omega
  have hs : ((⟨l.toArray⟩ : ByteArray).size : Int) = (n : Int) + 1 := by rw [hs, hn]; rfl
  unfold strV at hnb ⊢
  obtain ⟨s, hse⟩ : ∃ s : ByteArray, s = ⟨l.toArray⟩ := ⟨_, rfl⟩
  obtain ⟨s2, hse2⟩ : ∃ s : ByteArray, s = ⟨(l.take n).toArray⟩ := ⟨_, rfl⟩
  rw [← hse2] at hsl hnb
  rw [← hse] at hs hix hsl ⊢
  have hdz : ∀ k : Nat, k < 10000000 → ∀ w, Calls Tryd.prog 51 #[.int .i64 (k : Int), .int .u8 (c.toNat : Int)] w fun e w' => e = .returned (pairV (daysD (k : Int) c.toNat)) ∧ w = w' := fun k hk w => rdays15_any (k : Int) ⟨by omega, by omega⟩ c w
  have HDZ := Lib.hid hdz
  rcases unit_cases c.toNat with hu | hu
  · rw [if_pos hu]
    rw [hu] at hsz
    generalize c.toNat = b at *
    unfold pairV
    clear hl q1 hnb HDZ hdz hse hse2 hc hn hu hml hsl
    go_enter Tryd.func41, Tryd.ntmps41
    go_wp2_with (go_at_call 49; refine (hsz _).mono ?_; rintro e w' ⟨rfl, rfl⟩)
    go_ret2
    exact ⟨rfl, rfl⟩
  have hu0 : ¬ unitD c.toNat = 0 := by rcases hu with ⟨_, h⟩ | ⟨_, h⟩ | ⟨_, h⟩ | ⟨_, h⟩ <;> omega
  rw [if_neg hu0]
  generalize c.toNat = b at *
  obtain ⟨u, hu⟩ : ∃ u, u = unitD b := ⟨_, rfl⟩
  rw [← hu] at hsz hu0
  have DU : ((u : Int) == 0) = false := beq_eq_false_iff_ne.2 (by omega)
  clear hdz
  cases hd : numD (l.take n) with
  | none =>
    rw [hd] at hnb
    simp only
    unfold numI at hnb
    unfold pairV
    clear hl q1 HDZ hse hse2 hc hn hu hml hd
    go_enter Tryd.func41, Tryd.ntmps41
    go_wp2_with (first
      | (go_at_call 49; refine (hsz _).mono ?_; rintro e w' ⟨rfl, rfl⟩)
      | (go_at_call 50; refine (hnb _).mono ?_; rintro e w' ⟨rfl, rfl⟩))
    go_ret2
    exact ⟨rfl, rfl⟩
  | some k =>
    rw [hd] at hnb
    simp only
    unfold numI at hnb
    have hdz := HDZ.out k (numD_small hd)
    clear hl q1 HDZ hse hse2 hc hn hu hml hd
    generalize daysD (k : Int) b = r at *
    unfold pairV at *
    go_enter Tryd.func41, Tryd.ntmps41
    go_wp2_with (first
      | (go_at_call 49; refine (hsz _).mono ?_; rintro e w' ⟨rfl, rfl⟩)
      | (go_at_call 50; refine (hnb _).mono ?_; rintro e w' ⟨rfl, rfl⟩)
      | (go_at_call 51; refine (hdz _).mono ?_; rintro e w' ⟨rfl, rfl⟩))
    go_ret2
    exact ⟨rfl, rfl⟩
end Go.Proofs.YtndmdenhmcmbcaaDoor
