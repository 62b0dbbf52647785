/-
  The law SectGets over the loaded program: every bytes as a sector, or the error. No condition.
-/
import Derived.Test.YtfhkkmhidccdmaaSeL
import Derived.Test.YtfhkkmhidccdmaaArgs
namespace Go.Proofs.Ytfhkkmhidccdmaa
open Go.RowKit Gau Go.ChangeShapes Go.WideShapes Go.Joins
set_option linter.unusedVariables false

theorem gets_out (S : Nat → Prop) (v : Value) (l : List UInt8) (hx : 2000 < l.length) (w : World) (h : BS w S v l) :
    Calls Try.prog 4 #[v] w (Yes9 w) := by
  obtain ⟨A, c, rfl, _⟩ := h.form
  have h2 : (2000 : Int) < l.length := by omega
  clear h
  go_enter Try.func4, Try.ntmps4
  go_wp2_with fail
  refine (live_any _).mono ?_
  rintro e w1 ⟨rfl, b1⟩
  go_wp2
  go_ret
  exact ⟨rfl, b1⟩

set_option maxRecDepth 100000 in
theorem gets_main (S : Nat → Prop) (v : Value) (l : List UInt8) (h1 : ¬ 2000 < l.length) (w : World) (h : BS w S v l) :
    Calls Try.prog 4 #[v] w (Yes9 w) := by
  have hp := get_sect S v l w h
  have hr := fun W hb => rget_sect S v l W hb
  obtain ⟨A, c, rfl, _⟩ := h.form
  have h3 : ¬ (2000 : Int) < l.length := by omega
  clear h1
  generalize getS l = r at *
  obtain ⟨n, p, e⟩ := r
  go_enter Try.func4, Try.ntmps4
  go_wp2_with fail
  refine hp.mono ?_
  rintro _ w1 ⟨v1, rfl, how1, b1⟩
  have q1 := own_BS how1
  replace h := h.below' b1
  clear hp how1
  go_wp2_with fail
  refine (hr w1 h).mono ?_
  rintro _ w2 ⟨v2, rfl, how2, b2⟩
  have q2 : BS w2 _ v2 p := own_BS how2
  replace q1 : BS w2 _ v1 p := q1.below' b2
  have B := b1.trans (b2.mono b1.size)
  clear hr how2 b1 b2 h
  go_wp2_with fail
  refine (same_to _ _ _ _ _ w2 q1 q2).mono ?_
  rintro _ w3 ⟨rfl, b3⟩
  replace B := B.trans (b3.mono B.size)
  clear b3 q1 q2
  go_wp2_with (go_at_call 11; refine (num9_any _ _).mono ?_; rintro _ w' ⟨rfl, rfl⟩)
  refine (live_any _).mono ?_
  rintro _ w4 ⟨rfl, b4⟩
  replace B := B.trans (b4.mono B.size)
  go_wp2
  go_ret
  exact ⟨rfl, B⟩

theorem sectGets_law {H : Type} (enc : TypeId × Value → H) (W : World) (base : Nat) (v0 : Value) (d0 : DataW H) (p0 : List MemPlace)
    (ok0 : Value.okWide Try.prog W .any base 22 v0) (h0 : DataW.Trod enc Try.prog W 0 (fun _ => true) true 22 v0 d0 p0) :
    Calls Try.prog 4 #[v0] W fun e W' => e = .returned (.bool true) ∧ Below W.heap.size W W' := by
  obtain ⟨l, hl⟩ := BS_of_arg ok0 h0
  by_cases hx : 2000 < l.length
  · exact gets_out _ _ l hx W hl
  · exact gets_main _ _ l hx W hl
end Go.Proofs.Ytfhkkmhidccdmaa
