/-
  PaS: The program's Rules and Cost (layer 18), over the loaded program: their contracts. No condition but sizes.
-/
import Derived.Test.YthindhlogkhclaaGreatDoorPz40
set_option linter.unusedVariables false
set_option maxRecDepth 100000
namespace Go.Proofs.YthindhlogkhclaaGreatDoor
section
open Go.RowKit
theorem parse_err (l : List UInt8) : (parseD l).2 ≠ 14 := by
  unfold parseD
  split
  · decide
  · split
    · decide
    · split
      · decide
      · unfold daysD
        split
        · decide
        · split
          · decide
          · show (0 : Int) ≠ 14; decide
theorem one_err (r : List UInt8) : (oneW r).e ≠ 14 := by
  cases r with
  | nil => decide
  | cons c l =>
    rw [oneW_cons]
    unfold oneC
    have z : ∀ k t s, (⟨k, t, 0, s, 0⟩ : Wd).e ≠ 14 := fun k t s => by show (0 : Int) ≠ 14; decide
    split
    · exact z _ _ _
    split
    · exact z _ _ _
    split
    · exact z _ _ _
    split
    · exact z _ _ _
    split
    · unfold quoteW
      split
      · exact z _ _ _
      · show (2 : Int) ≠ 14; decide
    split
    · unfold spanW
      split
      · show (0 : Int) ≠ 14; decide
      · exact parse_err _
    · show (2 : Int) ≠ 14; decide
theorem lex_err : ∀ (f a : Nat) (r : List UInt8), (lexL f a r).2.2 ≠ 14
  | 0, _, _ => by rw [lexL]; show (0 : Int) ≠ 14; decide
  | f + 1, a, r => by
    by_cases h : r.drop (skipN false r) = []
    · rw [lex_end h]; show (0 : Int) ≠ 14; decide
    · by_cases he : (oneW (r.drop (skipN false r))).e = 0
      · rw [lex_one h he]; exact lex_err f _ _
      · rw [lex_bad h he]; exact one_err _
theorem all_err (t : List UInt8) : (allS t).2.2 ≠ 14 := by
  unfold allS
  split
  · show (3 : Int) ≠ 14; decide
  · split
    · exact lex_err _ _ _
    · exact lex_err _ _ _
theorem read_used (t : List UInt8) {n : Int} (h0 : 0 ≤ n) : 0 ≤ (readP t n).2.2.2 ∧ (readP t n).2.2.2 ≤ n := by
  have h1 := run_sum (allS t).1 n
  have h2 := run_low (allS t).1 n
  have h3 : 0 ≤ (runP (allS t).1 n).2.used ∧ (runP (allS t).1 n).2.used ≤ n := ⟨h2.1, by rcases h2.2 with h | h <;> omega⟩
  by_cases a : (allS t).2.2 = 0
  case neg => rw [read_bad a]; exact ⟨Int.le_refl _, h0⟩
  by_cases b : (runP (allS t).1 n).2.e = 0
  case neg => rw [read_wrong a b]; exact h3
  by_cases c : checkR 17 (runP (allS t).1 n).1 = 0
  case neg => rw [read_not a b c]; exact h3
  rw [read_good a b c]; exact h3
def costP (t : List UInt8) : Int × Int := if (readP t 1099511627776).2.2.1 = 0 then ((readP t 1099511627776).2.2.2, 0) else (0, (readP t 1099511627776).2.2.1)
theorem read_never (t : List UInt8) {n : Int} (h : 1201 ≤ n) : (readP t n).2.2.1 ≠ 14 := read_enough (by have := (fine_all t).2; omega) (all_err t) (check_small 17)
theorem read_max (t : List UInt8) : readP t 9223372036854775807 = readP t 1099511627776 := read_more (n := 1099511627776) (k := 9223370937343148031) (by omega) (read_never t (by omega))
def RulesAs (t : List UInt8) (fuel : Int) (w : World) (e : Ending) (w' : World) : Prop :=
  ∃ (v : Value), e = .returned (.tuple #[v, .int .i64 ((readP t fuel).2.1 : Int), .int .i64 (readP t fuel).2.2.1]) ∧ RS w' (fun b => b < w'.heap.size) 17 v (readP t fuel).1 ∧ Below w.heap.size w w'
set_option maxHeartbeats 4000000 in
theorem rules18_any (t : List UInt8) (ht : t.length ≤ maxLen) (fuel : Int) (hfu : I64 fuel) (w : World) : Calls Tryz.prog 5 #[strV t, .int .i64 fuel] w (RulesAs t fuel w) := by
  have hr := read_any t ht fuel hfu w
  unfold ReadAs at hr
  obtain ⟨D, hD⟩ : ∃ D, D = RulesAs t fuel w := ⟨_, rfl⟩
  rw [← hD]
  have HD : Hid (∀ W v, RS W (fun b => b < W.heap.size) 17 v (readP t fuel).1 → Below w.heap.size w W → D (.returned (.tuple #[v, .int .i64 ((readP t fuel).2.1 : Int), .int .i64 (readP t fuel).2.2.1])) W) := fun W v h1 h2 => by rw [hD]; exact ⟨v, rfl, h1, h2⟩
  clear hD ht hfu
  obtain ⟨ts, hts⟩ : ∃ ts : ByteArray, strV t = .string ts := ⟨_, rfl⟩
  rw [hts] at hr ⊢
  clear hts
  generalize readP t fuel = q at *
  obtain ⟨l, n, e, u⟩ := q
  dsimp only at hr HD
  go_enter Tryz.func5, Tryz.ntmps5
  go_wp2_with fail
  refine hr.mono ?_
  rintro e9 w1 ⟨v, left, rfl, hv, _, b1⟩
  have hfin := HD.out w1 v hv b1
  obtain ⟨A, c, rfl, _⟩ := hv.form
  clear hr HD hv
  go_wp2_with fail
  go_ret3
  exact hfin
set_option maxHeartbeats 4000000 in
theorem cost18_any (t : List UInt8) (ht : t.length ≤ maxLen) (w : World) : Calls Tryz.prog 7 #[strV t] w fun e w' => e = .returned (.tuple #[.int .i64 (costP t).1, .int .i64 (costP t).2]) ∧ Below w.heap.size w w' := by
  have hr := read_any t ht 9223372036854775807 (by unfold I64; omega) w
  have hu := read_used t (n := 1099511627776) (by omega)
  unfold ReadAs at hr
  rw [read_max] at hr
  unfold costP
  obtain ⟨ts, hts⟩ : ∃ ts : ByteArray, strV t = .string ts := ⟨_, rfl⟩
  rw [hts] at hr ⊢
  clear hts
  generalize readP t 1099511627776 = q at *
  obtain ⟨l, n, e, u⟩ := q
  dsimp only at hr hu ⊢
  by_cases he : e = 0
  · subst he
    rw [if_pos rfl]
    go_enter Tryz.func7, Tryz.ntmps7
    go_wp2_with fail
    refine hr.mono ?_
    rintro e9 w1 ⟨v, left, rfl, hv, hl, b1⟩
    have hl' := hl (by trivial)
    obtain ⟨A, c, rfl, _⟩ := hv.form
    have I1 : IntKind.i64.wrap (9223372036854775807 - left) = u := by rw [IntKind.wrap_i64]; omega
    have I2 : wrap64 (9223372036854775807 - left) = u := by rw [IntWalk.wrap64_in _ (by omega)]; omega
    clear hr hv hl hl' hu
    go_wp2_with fail
    go_ret2
    exact ⟨rfl, b1⟩
  · rw [if_neg he]
    have g1 : (e == 0) = false := beq_eq_false_iff_ne.2 he
    have g2 : (e != 0) = true := bne_iff_ne.2 he
    go_enter Tryz.func7, Tryz.ntmps7
    go_wp2_with fail
    refine hr.mono ?_
    rintro e9 w1 ⟨v, left, rfl, hv, hl, b1⟩
    obtain ⟨A, c, rfl, _⟩ := hv.form
    clear hr hv hl hu
    go_wp2_with fail
    go_ret2
    exact ⟨rfl, b1⟩
end
end Go.Proofs.YthindhlogkhclaaGreatDoor
