/-
  The law DueWhen over the loaded program: whether and when a condition is met is told as the document says. No condition.
-/
import Derived.Test.YtommcdgognlfcaaDuL
import Derived.Test.YtommcdgognlfcaaDuR
namespace Go.Proofs.Ytommcdgognlfcaa
open Go.RowKit Go.ChangeShapes Go.WideShapes Go.Joins
set_option maxRecDepth 100000
set_option linter.unusedVariables false

set_option maxHeartbeats 8000000 in
theorem when_law (S Sm : Nat → Prop) (f : Nat) (x : Ex f) (ms : List Ml) (v0 vm : Value) (w : World) (hx : EV w S f v0 x) (hm : ML w Sm vm ms) :
    Calls Try.prog 3 #[v0, vm] w fun e w' => e = .returned (.bool true) ∧ Below w.heap.size w w' := by
  obtain ⟨Am, capm, rfl, hlm, hmm⟩ := hm.form
  have hlen : ms.length ≤ 9223372036854775807 := by unfold maxLen at hmm; omega
  have hxx := hx
  obtain ⟨c0, c1, c2, c3, rfl, ht⟩ := hx
  have hf4 := ht.form
  have kb := KB.new w 24 #[c0, c1, c2, c3]
  have B0 := (Below.refl w.heap.size w).alloc (Nat.le_refl _) (.cells #[c0, c1, c2, c3] 24)
  have HSM : Hid (∀ W, Below w.heap.size w W → Calls Try.prog 7 #[.agg #[c0, c1, c2, c3]] W fun e w' => ∃ b : Bool, e = .returned (.bool b) ∧ (b = true → fewX f x) ∧ Below W.heap.size W w') := fun W hb => small19_any S f x _ W (hxx.below' hb)
  have HP : Hid (fewX f x → ∀ W, Below w.heap.size w W → Calls Try.prog 9 #[.agg #[c0, c1, c2, c3], .slice Am ms.length capm] W (WhenAs W (whenX ms f x))) := fun hf W hb => when19_any S Sm ms _ f x _ W hf (hm.below' hb) (hxx.below' hb)
  have HR : Hid (∀ W, Below w.heap.size w W → Calls Try.prog 10 #[.agg #[c0, c1, c2, c3], .slice Am ms.length capm] W (WhenAs W (whenX ms f x))) := fun W hb => rwhen19_any S Sm ms _ f x _ W (hm.below' hb) (hxx.below' hb)
  have HL : Hid (∀ W, Calls Try.prog 8 #[] W fun e w' => e = .returned (.bool true) ∧ Below W.heap.size W w') := fun W => live19_any W
  clear hxx ht hm
  obtain ⟨i0, i1, l2, X3, n3, z3, rfl, rfl, rfl, rfl⟩ := hf4
  unfold strV at *
  generalize (⟨l2.toArray⟩ : ByteArray) = s at *
  generalize whenX ms f x = r at *
  obtain ⟨t, ok⟩ := r
  have hs := HSM.out _ B0
  clear HSM
  go_enter Try.func3, Try.ntmps3
  go_wp2_with fail
  refine hs.mono ?_
  rintro e w5 ⟨b, rfl, hf, b5⟩
  have HF := Lib.hid hf
  clear hf hs
  have B5 := B0.trans (b5.mono B0.size)
  have K5 := kb.below b5 kb.lt
  clear kb B0 b5
  have r0 := K5.cell 0
  have r1 := K5.cell 1
  have r2 := K5.cell 2
  have r3 := K5.cell 3
  cases b with
  | false =>
    have hl := HL.out w5
    clear HF HP HR HL
    go_wp2_with fail
    refine hl.mono ?_
    rintro e w6 ⟨rfl, b6⟩
    have B6 := B5.trans (b6.mono B5.size)
    go_wp2_with fail
    go_ret
    exact ⟨rfl, B6⟩
  | true =>
    by_cases h50 : 50 < ms.length
    · have d : decide ((50 : Int) < (ms.length : Int)) = true := decide_eq_true (by omega)
      have d' : decide (50 < ms.length) = true := decide_eq_true h50
      have hl := HL.out w5
      clear HF HP HR HL
      go_wp2_with fail
      refine hl.mono ?_
      rintro e w6 ⟨rfl, b6⟩
      have B6 := B5.trans (b6.mono B5.size)
      go_wp2_with fail
      go_ret
      exact ⟨rfl, B6⟩
    · have d : decide ((50 : Int) < (ms.length : Int)) = false := decide_eq_false (by omega)
      have d' : decide (50 < ms.length) = false := decide_eq_false h50
      have hp := HP.out (HF.out rfl) w5 B5
      clear HF HP
      go_wp2_with fail
      refine hp.mono ?_
      rintro e w6 ⟨rfl, b6⟩
      have B6 := B5.trans (b6.mono B5.size)
      have K6 := K5.below b6 K5.lt
      clear hp b6 r0 r1 r2 r3
      have r0 := K6.cell 0
      have r1 := K6.cell 1
      have r2 := K6.cell 2
      have r3 := K6.cell 3
      have hr := HR.out w6 B6
      clear HR
      go_wp2_with fail
      refine hr.mono ?_
      rintro e w7 ⟨rfl, b7⟩
      have B7 := B6.trans (b7.mono B6.size)
      have hl := HL.out w7
      clear hr b7 HL
      go_wp2_with fail
      refine hl.mono ?_
      rintro e w8 ⟨rfl, b8⟩
      have B8 := B7.trans (b8.mono B7.size)
      go_wp2_with fail
      go_ret
      exact ⟨rfl, B8⟩

theorem dueWhen_law {H : Type} (enc : TypeId × Value → H) (W : World) (base : Nat)
    (v0 : Value) (d0 : DataW H) (p0 : List MemPlace) (v1 : Value) (d1 : DataW H) (p1 : List MemPlace)
    (k0 : Value.okWide Try.prog W .any base 24 v0) (k1 : Value.okWide Try.prog W .any base 25 v1)
    (h0 : DataW.Trod enc Try.prog W 0 (fun _ => true) true 24 v0 d0 p0) (h1 : DataW.Trod enc Try.prog W 0 (fun _ => true) true 25 v1 d1 p1) :
    Calls Try.prog 3 #[v0, v1] W fun e W' => e = .returned (.bool true) ∧ Below W.heap.size W W' := by
  obtain ⟨n0, hn0⟩ := open_expr k0 h0
  obtain ⟨x, hx⟩ := hn0 n0 (Nat.le_refl _)
  obtain ⟨ms, hm⟩ := open_miles k1 h1
  exact when_law _ _ n0 x ms v0 v1 W hx hm
end Go.Proofs.Ytommcdgognlfcaa
