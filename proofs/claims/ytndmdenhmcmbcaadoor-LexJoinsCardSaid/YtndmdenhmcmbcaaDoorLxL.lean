/-
  The law's own functions of layer 16: num, live (the page's example), Same of the same words, over the loaded program: each one's contract. No condition.
-/
import Derived.Test.YtndmdenhmcmbcaaDoorLxH
import Derived.Test.YtndmdenhmcmbcaaDoorLxU
import Derived.BigQuiet
namespace Go.Proofs.YtndmdenhmcmbcaaDoor
open Go.RowKit
set_option maxRecDepth 100000
set_option linter.unusedVariables false

theorem num16_any (n : Int) (w : World) : Calls Tryd.prog 10 #[.int .i64 n] w fun e w' => e = .returned (.int .i64 n) ∧ w = w' := by
  go_enter Tryd.func10, Tryd.ntmps10
  go_wp2
  go_ret
  exact ⟨rfl, rfl⟩

def exS : List UInt8 := [99, 108, 97, 115, 115, 32, 34, 104, 114, 34, 32, 107, 101, 101, 112, 32, 50, 121]
def exT : List Tk := [⟨1, [99, 108, 97, 115, 115], 0, 0⟩, ⟨2, [104, 114], 0, 6⟩, ⟨1, [107, 101, 101, 112], 0, 11⟩, ⟨3, [50, 121], 730, 16⟩]
theorem exS_all : allS exS = (exT, 18, 0) := by rfl

set_option maxHeartbeats 4000000 in
/-- live. -/
theorem live16_any (w : World) : Calls Tryd.prog 6 #[] w fun e w' => e = .returned (.bool true) ∧ Below w.heap.size w w' := by
  have ha := all16_any exS (by unfold maxLen; decide) 
  unfold AllAs at ha
  rw [exS_all] at ha
  have hnum := num16_any
  obtain ⟨u, hu⟩ : ∃ u : ByteArray, u = ⟨([104, 114] : List UInt8).toArray⟩ := ⟨_, rfl⟩
  have HU : Hid (Value.string u = strV [104, 114]) := by show _ = _; rw [hu]; rfl
  have E1 : (u.toList == ({ data := #[104, 114] } : ByteArray).toList) = true := by rw [hu]; simp
  have E2 : (u.toList == [104, 114]) = true := by rw [hu, Lib.toList_data]; rfl
  clear hu
  go_enter Tryd.func6, Tryd.ntmps6
  go_wp2_with (first
    | (go_at_call 7; refine (ha _).mono ?_; rintro e w1 ⟨v, rfl, ht, b1⟩; obtain ⟨A, cp, rfl, hc1, hc2⟩ := ht.form; obtain ⟨bb, o, rfl, hS, hbl, hx⟩ := ht.at_ (by decide);
       obtain ⟨_, x1, _, _⟩ := hx 1 ⟨2, [104, 114], 0, 6⟩ rfl; dsimp only at x1; rw [← HU.out] at x1; obtain ⟨_, _, x3, _⟩ := hx 3 ⟨3, [50, 121], 730, 16⟩ rfl; clear hx)
    | (go_at_call 10; refine (hnum _ _).mono ?_; rintro e w2 ⟨rfl, rfl⟩))
  go_ret
  exact ⟨rfl, b1⟩

set_option maxHeartbeats 8000000 in
/-- Same, of the same words. -/
theorem same16_yes (S S' : Nat → Prop) (v v' : Value) (l : List Tk) (w : World) (h : TS w S v l) (h' : TS w S' v' l) :
    Calls Tryd.prog 9 #[v, v'] w fun e w' => e = .returned (.bool true) ∧ Below w.heap.size w w' := by
  obtain ⟨A, c, rfl, hc, hm⟩ := h.form
  obtain ⟨A', c', rfl, hc', hm'⟩ := h'.form
  have hl63 : l.length ≤ 9223372036854775807 := by unfold maxLen at hm; omega
  have hself : ((l.length : Int) != (l.length : Int)) = false := by simp
  go_enter Tryd.func9, Tryd.ntmps9
  go_wp2
  go_loopw [5] (fun iv wr => ∃ i : Nat, i ≤ l.length ∧ iv = .int .i64 (i : Int) ∧ Below w.heap.size w wr) (fun iv _ => l.length - (intOf iv).toNat)
  case atStart => exact ⟨0, Nat.zero_le _, rfl, Below.refl _ _⟩
  case round =>
    obtain ⟨i, hi, rfl, bl⟩ := hrel
    by_cases hlt : i < l.length
    · have hltI : (i : Int) < (l.length : Int) := by omega
      obtain ⟨t, ht⟩ : ∃ t, l[i]? = some t := ⟨_, List.getElem?_eq_getElem hlt⟩
      obtain ⟨b, o, rfl, _, hb, hx⟩ := (h.below' bl).at_ (by omega)
      obtain ⟨b', o', rfl, _, hb', hx'⟩ := (h'.below' bl).at_ (by omega)
      obtain ⟨x0, x1, x2, x3⟩ := hx i t ht
      obtain ⟨y0, y1, y2, y3⟩ := hx' i t ht
      have hwr : IntKind.i64.wrap ((i : Int) + 1) = ((i + 1 : Nat) : Int) := by rw [IntKind.wrap_i64]; omega
      obtain ⟨kd, tx, nn, at_⟩ := t
      dsimp only at x0 x1 x2 x3 y0 y1 y2 y3
      have HB := Lib.hid bl
      unfold strV at *
      generalize (⟨tx.toArray⟩ : ByteArray) = tt at *
      clear hx hx' h h' ht bl
      go_wp2
      go_quiet (fail)
      have bq := Below_drawn HB.out nq
      generalize wr.drewN nq = w2 at bq ⊢
      go_wp2
      go_roundw
      case rel => exact ⟨i + 1, by omega, by first | rfl | (rw [hwr]), bq⟩
      case measure => simp [intOf]; omega
    · obtain rfl : i = l.length := by omega
      go_wp2
      go_ret
      exact ⟨rfl, bl⟩
end Go.Proofs.YtndmdenhmcmbcaaDoor
