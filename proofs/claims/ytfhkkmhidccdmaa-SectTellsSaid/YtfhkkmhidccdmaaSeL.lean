/-
  num, and live: the page's example, over the loaded program. No condition.
-/
import Derived.Test.YtfhkkmhidccdmaaSeG
namespace Go.Proofs.Ytfhkkmhidccdmaa
open Go.RowKit Gau
set_option linter.unusedVariables false

/-- num. -/
theorem num9_any (x : Int) (w : World) : Calls Try.prog 11 #[.int .i64 x] w fun e w' => e = .returned (.int .i64 x) ∧ w = w' := by
  go_enter Try.func11, Try.ntmps11
  go_wp2
  go_ret
  exact ⟨rfl, rfl⟩

/-- true, and nothing of what was there has turned. -/
def Yes9 (w : World) (e : Ending) (w' : World) : Prop := e = .returned (.bool true) ∧ Below w.heap.size w w'

theorem put_one : putS 1 [] = (fullS 1 [], 0) := putS_ok (by omega) (by simp)
theorem get_one : getS (fullS 1 []) = (1, [], 0) := by
  have := get_put (kind := 1) (body := []) (by rw [put_one])
  rwa [put_one] at this

set_option maxRecDepth 100000 in
/-- live. -/
theorem live_any (w : World) : Calls Try.prog 7 #[] w (Yes9 w) := by
  have hp := put_sect 1 (fun _ => False) (.slice none 0 0) [] w (BS.nil _ _)
  rw [put_one] at hp
  have hg := fun S v w h => get_sect S v (fullS 1 []) w h
  rw [get_one] at hg
  have hl : (fullS 1 []).length = 256 := fullS_len (by simp)
  have hz : fullS 1 [] ≠ zs 256 := fullS_nz (by decide)
  have hem := fun S v w h => empty_any S v (fullS 1 []) w h
  rw [decide_eq_false hz] at hem
  have hemz := fun S v w h => empty_any S v (zs 256) w h
  rw [decide_eq_true rfl] at hemz
  generalize fullS 1 [] = s at *
  have HL := Lib.hid hl
  clear hl hz
  go_enter Try.func7, Try.ntmps7
  go_wp2_with fail
  refine hp.mono ?_
  rintro e w1 ⟨v1, rfl, how1, b1⟩
  have h1 := own_BS how1
  obtain ⟨A1, c1, rfl, _⟩ := h1.form
  rw [HL.out] at *
  clear hp how1
  go_wp2_with fail
  refine (hg _ _ w1 h1).mono ?_
  rintro e w2 ⟨v2, rfl, how2, b2⟩
  have h2 := own_BS how2
  obtain ⟨A2, c2, rfl, _⟩ := h2.form
  replace h1 := h1.below' b2
  have B := b1.trans (b2.mono b1.size)
  clear hg how2 h2 b1 b2
  go_wp2_with (go_at_call 11; refine (num9_any 0 _).mono ?_; rintro e w' ⟨rfl, rfl⟩)
  refine (zero_any w2).mono ?_
  rintro e w3 ⟨rfl, k3, b3⟩
  replace h1 := h1.below' b3
  replace B := B.trans (b3.mono B.size)
  clear b3
  go_wp2_with fail
  refine (hemz _ _ w3 (kb_256 k3 (zs_len 256))).mono ?_
  rintro e w4 ⟨rfl, b4⟩
  replace h1 := h1.below' b4
  replace B := B.trans (b4.mono B.size)
  clear b4 k3
  go_wp2_with fail
  refine (hem _ _ w4 h1).mono ?_
  rintro e w5 ⟨rfl, b5⟩
  replace B := B.trans (b5.mono B.size)
  go_wp2
  go_ret
  exact ⟨rfl, B⟩
end Go.Proofs.Ytfhkkmhidccdmaa
