/-
  PaS: The program's Rules and Cost (layer 18), over the loaded program: their contracts. No condition but sizes.
  PbL: The law's own functions of layer 18: num, live (the page's example), over the loaded program: each one's contract. No condition.
-/
import Derived.Test.YthindhlogkhclaaDoorPm31
set_option linter.unusedVariables false
set_option maxRecDepth 100000
namespace Go.Proofs.YthindhlogkhclaaDoor
section
open Go.RowKit
theorem parse_err (l : List UInt8) : (parseD l).2 ≠ 14 := by
  unfold parseD
  split
  · decide
  · split
    · decide
    · split
      · decide
      · unfold daysD
        split
        · decide
        · split
          · decide
          · show (0 : Int) ≠ 14; decide
theorem one_err (r : List UInt8) : (oneW r).e ≠ 14 := by
  cases r with
  | nil => decide
  | cons c l =>
    rw [oneW_cons]
    unfold oneC
    have z : ∀ k t s, (⟨k, t, 0, s, 0⟩ : Wd).e ≠ 14 := fun k t s => by show (0 : Int) ≠ 14; decide
    split
    · exact z _ _ _
    split
    · exact z _ _ _
    split
    · exact z _ _ _
    split
    · exact z _ _ _
    split
    · unfold quoteW
      split
      · exact z _ _ _
      · show (2 : Int) ≠ 14; decide
    split
    · unfold spanW
      split
      · show (0 : Int) ≠ 14; decide
      · exact parse_err _
    · show (2 : Int) ≠ 14; decide
theorem lex_err : ∀ (f a : Nat) (r : List UInt8), (lexL f a r).2.2 ≠ 14
  | 0, _, _ => by rw [lexL]; show (0 : Int) ≠ 14; decide
  | f + 1, a, r => by
    by_cases h : r.drop (skipN false r) = []
    · rw [lex_end h]; show (0 : Int) ≠ 14; decide
    · by_cases he : (oneW (r.drop (skipN false r))).e = 0
      · rw [lex_one h he]; exact lex_err f _ _
      · rw [lex_bad h he]; exact one_err _
theorem all_err (t : List UInt8) : (allS t).2.2 ≠ 14 := by
  unfold allS
  split
  · show (3 : Int) ≠ 14; decide
  · split
    · exact lex_err _ _ _
    · exact lex_err _ _ _
theorem read_used (t : List UInt8) {n : Int} (h0 : 0 ≤ n) : 0 ≤ (readP t n).2.2.2 ∧ (readP t n).2.2.2 ≤ n := by
  have h1 := run_sum (allS t).1 n
  have h2 := run_low (allS t).1 n
  have h3 : 0 ≤ (runP (allS t).1 n).2.used ∧ (runP (allS t).1 n).2.used ≤ n := ⟨h2.1, by rcases h2.2 with h | h <;> omega⟩
  by_cases a : (allS t).2.2 = 0
  case neg => rw [read_bad a]; exact ⟨Int.le_refl _, h0⟩
  by_cases b : (runP (allS t).1 n).2.e = 0
  case neg => rw [read_wrong a b]; exact h3
  by_cases c : checkR 17 (runP (allS t).1 n).1 = 0
  case neg => rw [read_not a b c]; exact h3
  rw [read_good a b c]; exact h3
def costP (t : List UInt8) : Int × Int := if (readP t 1099511627776).2.2.1 = 0 then ((readP t 1099511627776).2.2.2, 0) else (0, (readP t 1099511627776).2.2.1)
theorem read_never (t : List UInt8) {n : Int} (h : 1201 ≤ n) : (readP t n).2.2.1 ≠ 14 := read_enough (by have := (fine_all t).2; omega) (all_err t) (check_small 17)
theorem read_max (t : List UInt8) : readP t 9223372036854775807 = readP t 1099511627776 := read_more (n := 1099511627776) (k := 9223370937343148031) (by omega) (read_never t (by omega))
def RulesAs (t : List UInt8) (fuel : Int) (w : World) (e : Ending) (w' : World) : Prop :=
  ∃ (v : Value), e = .returned (.tuple #[v, .int .i64 ((readP t fuel).2.1 : Int), .int .i64 (readP t fuel).2.2.1]) ∧ RS w' (fun b => b < w'.heap.size) 17 v (readP t fuel).1 ∧ Below w.heap.size w w'
set_option maxHeartbeats 4000000 in
theorem rules18_any (t : List UInt8) (ht : t.length ≤ maxLen) (fuel : Int) (hfu : I64 fuel) (w : World) : Calls Tryd.prog 8 #[strV t, .int .i64 fuel] w (RulesAs t fuel w) := by
  have hr := read_any t ht fuel hfu w
  unfold ReadAs at hr
  obtain ⟨D, hD⟩ : ∃ D, D = RulesAs t fuel w := ⟨_, rfl⟩
  rw [← hD]
  have HD : Hid (∀ W v, RS W (fun b => b < W.heap.size) 17 v (readP t fuel).1 → Below w.heap.size w W → D (.returned (.tuple #[v, .int .i64 ((readP t fuel).2.1 : Int), .int .i64 (readP t fuel).2.2.1])) W) := fun W v h1 h2 => by rw [hD]; exact ⟨v, rfl, h1, h2⟩
  clear hD ht hfu
  obtain ⟨ts, hts⟩ : ∃ ts : ByteArray, strV t = .string ts := ⟨_, rfl⟩
  rw [hts] at hr ⊢
  clear hts
  generalize readP t fuel = q at *
  obtain ⟨l, n, e, u⟩ := q
  dsimp only at hr HD
  go_enter Tryd.func8, Tryd.ntmps8
  go_wp2_with fail
  refine hr.mono ?_
  rintro e9 w1 ⟨v, left, rfl, hv, _, b1⟩
  have hfin := HD.out w1 v hv b1
  obtain ⟨A, c, rfl, _⟩ := hv.form
  clear hr HD hv
  go_wp2_with fail
  go_ret3
  exact hfin
set_option maxHeartbeats 4000000 in
theorem cost18_any (t : List UInt8) (ht : t.length ≤ maxLen) (w : World) : Calls Tryd.prog 11 #[strV t] w fun e w' => e = .returned (.tuple #[.int .i64 (costP t).1, .int .i64 (costP t).2]) ∧ Below w.heap.size w w' := by
  have hr := read_any t ht 9223372036854775807 (by unfold I64; omega) w
  have hu := read_used t (n := 1099511627776) (by omega)
  unfold ReadAs at hr
  rw [read_max] at hr
  unfold costP
  obtain ⟨ts, hts⟩ : ∃ ts : ByteArray, strV t = .string ts := ⟨_, rfl⟩
  rw [hts] at hr ⊢
  clear hts
  generalize readP t 1099511627776 = q at *
  obtain ⟨l, n, e, u⟩ := q
  dsimp only at hr hu ⊢
  by_cases he : e = 0
  · subst he
    rw [if_pos rfl]
    go_enter Tryd.func11, Tryd.ntmps11
    go_wp2_with fail
    refine hr.mono ?_
    rintro e9 w1 ⟨v, left, rfl, hv, hl, b1⟩
    have hl' := hl (by trivial)
    obtain ⟨A, c, rfl, _⟩ := hv.form
    have I1 : IntKind.i64.wrap (9223372036854775807 - left) = u := by rw [IntKind.wrap_i64]; omega
    have I2 : wrap64 (9223372036854775807 - left) = u := by rw [IntWalk.wrap64_in _ (by omega)]; omega
    clear hr hv hl hl' hu
    go_wp2_with fail
    go_ret2
    exact ⟨rfl, b1⟩
  · rw [if_neg he]
    have g1 : (e == 0) = false := beq_eq_false_iff_ne.2 he
    have g2 : (e != 0) = true := bne_iff_ne.2 he
    go_enter Tryd.func11, Tryd.ntmps11
    go_wp2_with fail
    refine hr.mono ?_
    rintro e9 w1 ⟨v, left, rfl, hv, hl, b1⟩
    obtain ⟨A, c, rfl, _⟩ := hv.form
    clear hr hv hl hu
    go_wp2_with fail
    go_ret2
    exact ⟨rfl, b1⟩
end
section
open Go.RowKit
theorem num18_any (n : Int) (w : World) : Calls Tryd.prog 9 #[.int .i64 n] w fun e w' => e = .returned (.int .i64 n) ∧ w = w' := by
  go_enter Tryd.func9, Tryd.ntmps9
  go_wp2
  go_ret
  exact ⟨rfl, rfl⟩
def liveP : List UInt8 := (100 :: 101 :: 102 :: 97 :: 117 :: 108 :: 116 :: 32 :: 107 :: 101 :: 101 :: 112 :: 32 :: 50 :: 121 :: 32 :: 97 :: 102 :: 116 :: 101 :: 114 :: 32 :: 99 :: 108 :: 111 :: 115 :: 101 :: 100 :: 32 :: 116 :: 104 :: 101 :: 110 :: 32 :: 100 :: 101 :: 115 :: 116 :: 114 :: 111 :: 121 :: 59 :: [])
theorem live_cost : costP liveP = (9, 0) := by decide +kernel
theorem live_nine : (readP liveP 9).1.length = 1 ∧ (readP liveP 9).2.1 = 42 ∧ (readP liveP 9).2.2.1 = 0 := by decide +kernel
theorem live_eight : (readP liveP 8).2.2.1 = 14 := by decide +kernel
theorem live_str : strV liveP = .string ⟨#[100, 101, 102, 97, 117, 108, 116, 32, 107, 101, 101, 112, 32, 50, 121, 32, 97, 102, 116, 101, 114, 32, 99, 108, 111, 115, 101, 100, 32, 116, 104, 101, 110, 32, 100, 101, 115, 116, 114, 111, 121, 59]⟩ := rfl
set_option maxHeartbeats 4000000 in
theorem live18_any (w : World) : Calls Tryd.prog 6 #[] w fun e w' => e = .returned (.bool true) ∧ Below w.heap.size w w' := by
  have hn := num18_any
  have HC : Hid (∀ W, Calls Tryd.prog 11 #[strV liveP] W fun e w' => e = .returned (.tuple #[.int .i64 (costP liveP).1, .int .i64 (costP liveP).2]) ∧ Below W.heap.size W w') := fun W => cost18_any liveP (by unfold maxLen liveP; simp) W
  have H9 : Hid (∀ W, Calls Tryd.prog 8 #[strV liveP, .int .i64 9] W (RulesAs liveP 9 W)) := fun W => rules18_any liveP (by unfold maxLen liveP; simp) 9 (by unfold I64; omega) W
  have H8 : Hid (∀ W, Calls Tryd.prog 8 #[strV liveP, .int .i64 8] W (RulesAs liveP 8 W)) := fun W => rules18_any liveP (by unfold maxLen liveP; simp) 8 (by unfold I64; omega) W
  unfold RulesAs at H9 H8
  obtain ⟨l1, l2, l3⟩ := live_nine
  rw [l2, l3] at H9
  rw [live_eight] at H8
  rw [live_cost] at HC
  rw [live_str] at HC H9 H8
  dsimp only at HC
  have B := Below.refl w.heap.size w
  obtain ⟨x, hx⟩ : ∃ x : ByteArray, x = ⟨#[100, 101, 102, 97, 117, 108, 116, 32, 107, 101, 101, 112, 32, 50, 121, 32, 97, 102, 116, 101, 114, 32, 99, 108, 111, 115, 101, 100, 32, 116, 104, 101, 110, 32, 100, 101, 115, 116, 114, 111, 121, 59]⟩ := ⟨_, rfl⟩
  rw [← hx] at HC H9 H8
  have HX := Lib.hid hx
  clear hx
  generalize (readP liveP 8).1 = m8 at *
  generalize ((readP liveP 8).2.1 : Int) = n8 at *
  go_enter Tryd.func6, Tryd.ntmps6
  go_wp2_with fail
  rw [← HX.out]
  refine (HC.out _).mono ?_
  rintro e w1 ⟨rfl, b1⟩
  replace B := B.trans (b1.mono B.size)
  clear b1 HC
  go_wp2_with fail
  rw [← HX.out]
  refine (H9.out _).mono ?_
  rintro e w1 ⟨v9, rfl, hv9, b1⟩
  replace B := B.trans (b1.mono B.size)
  obtain ⟨A9, c9, rfl, _⟩ := hv9.form
  rw [l1]
  clear b1 H9 hv9
  go_wp2_with fail
  rw [← HX.out]
  refine (H8.out _).mono ?_
  rintro e w1 ⟨v8, rfl, hv8, b1⟩
  replace B := B.trans (b1.mono B.size)
  obtain ⟨A8, c8, rfl, _⟩ := hv8.form
  clear b1 H8 hv8
  go_wp2_with (go_at_call 9; refine (hn _ _).mono ?_; rintro e w4 ⟨rfl, rfl⟩)
  go_ret
  exact ⟨rfl, B⟩
end
end Go.Proofs.YthindhlogkhclaaDoor
