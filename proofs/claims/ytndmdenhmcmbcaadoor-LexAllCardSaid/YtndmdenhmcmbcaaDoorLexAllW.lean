/-
  The law LexAll over the loaded program: every text's words, or where it is wrong, as the document says. No condition.
-/
import Derived.Test.YtndmdenhmcmbcaaDoorLxL
import Derived.Test.YtndmdenhmcmbcaaDoorArgs
namespace Go.Proofs.YtndmdenhmcmbcaaDoor
open Go.RowKit Go.ChangeShapes Go.WideShapes Go.Joins
set_option maxRecDepth 100000
set_option linter.unusedVariables false

set_option maxHeartbeats 4000000 in
theorem lex_all (l : List UInt8) (hl : l.length ≤ maxLen) (w : World) :
    Calls Tryd.prog 3 #[strV l] w fun e w' => e = .returned (.bool true) ∧ Below w.heap.size w w' := by
  have hs : ((⟨l.toArray⟩ : ByteArray).size : Int) = (l.length : Int) := rfl
  have ha := all16_any l hl
  have hb := rall_any l hl
  have hlive := live16_any
  have hnum := num16_any
  unfold AllAs at ha
  unfold RAllAs at hb
  obtain ⟨r, hr⟩ : ∃ r, r = allS l := ⟨_, rfl⟩
  rw [← hr] at ha hb
  obtain ⟨ts, n, er⟩ := r
  dsimp only at ha hb
  have hsame := fun S S' v v' w => same16_yes S S' v v' ts w
  unfold strV at *
  generalize (⟨l.toArray⟩ : ByteArray) = s at *
  clear hr hl
  by_cases h0 : 2000 < l.length
  · have D : decide ((2000 : Int) < (l.length : Int)) = true := decide_eq_true (by omega)
    clear ha hb hsame
    go_enter Tryd.func3, Tryd.ntmps3
    go_wp2_with (go_at_call 6; refine (hlive _).mono ?_; rintro e w1 ⟨rfl, b1⟩)
    go_ret
    exact ⟨rfl, b1⟩
  · have D : decide ((2000 : Int) < (l.length : Int)) = false := decide_eq_false (by omega)
    go_enter Tryd.func3, Tryd.ntmps3
    go_wp2_with (first
      | (go_at_call 7; refine (ha _).mono ?_; rintro e w1 ⟨v1, rfl, t1, b1⟩; obtain ⟨A1, c1, rfl, _⟩ := t1.form)
      | (go_at_call 8; refine (hb _).mono ?_; rintro e w2 ⟨v2, rfl, t2, b2⟩; obtain ⟨A2, c2, rfl, _⟩ := t2.form; have t1' := t1.below' b2)
      | (go_at_call 9; refine (hsame _ _ _ _ _ t1' t2).mono ?_; rintro e w3 ⟨rfl, b3⟩)
      | (go_at_call 10; refine (hnum _ _).mono ?_; rintro e w4 ⟨rfl, rfl⟩)
      | (go_at_call 6; refine (hlive _).mono ?_; rintro e w5 ⟨rfl, b5⟩))
    go_ret
    exact ⟨rfl, b1.trans ((b2.mono b1.size).trans ((b3.mono (Nat.le_trans b1.size b2.size)).trans (b5.mono (Nat.le_trans b1.size (Nat.le_trans b2.size b3.size)))))⟩

theorem lexAll_law {H : Type} (enc : TypeId × Value → H) (W : World) (base : Nat) (v0 : Value) (d0 : DataW H) (p0 : List MemPlace)
    (o0 : Value.okWide Tryd.prog W .any base 9 v0) (h0 : DataW.Trod enc Tryd.prog W 0 (fun _ => true) true 9 v0 d0 p0) :
    Calls Tryd.prog 3 #[v0] W fun e W' => e = .returned (.bool true) ∧ Below W.heap.size W W' := by
  obtain ⟨l, rfl, hl⟩ := open_str o0 h0
  exact lex_all l hl W
end Go.Proofs.YtndmdenhmcmbcaaDoor
