/-
  The law MarkOf over the loaded program: every text's mark and its four bytes; which bytes are its mark. No condition.
-/
import Derived.Test.YtcjegcmijdkekaaMarkL
import Derived.Test.YtcjegcmijdkekaaMarkS
import Derived.Test.YtcjegcmijdkekaaArgs
namespace Go.Proofs.Ytcjegcmijdkekaa
open Go.RowKit Gau Go.ChangeShapes Go.WideShapes Go.Joins
set_option linter.unusedVariables false

theorem of_out (S : Nat → Prop) (v m : Value) (l : List UInt8) (hl : 3000 < l.length) (w : World) (h : BS w S v l) :
    Calls Try.prog 3 #[v, m] w fun e w' => e = .returned (.bool true) ∧ Below w.heap.size w w' := by
  obtain ⟨A, c, rfl, _⟩ := h.form
  go_enter Try.func3, Try.ntmps3
  go_wp2_with fail
  refine (live_any _).mono ?_
  rintro e w1 ⟨rfl, b1⟩
  go_wp2
  go_ret
  exact ⟨rfl, b1⟩

theorem of_main (S S' : Nat → Prop) (v y : Value) (l m : List UInt8) (hl : l.length ≤ 3000) (w : World) (h : BS w S v l) (hy : BS w S' y m) :
    Calls Try.prog 3 #[v, y] w fun e w' => e = .returned (.bool true) ∧ Below w.heap.size w w' := by
  have hp := put_any S v l w h
  obtain ⟨A, c, rfl, _⟩ := h.form
  obtain ⟨A', c', rfl, _⟩ := hy.form
  go_enter Try.func3, Try.ntmps3
  go_wp2_with fail
  refine hp.mono ?_
  rintro e w1 ⟨vp, rfl, how, b1⟩
  have hv := own_BS how
  have h1 := h.below' b1
  have y1 := hy.below' b1
  have B1 := b1
  obtain ⟨A1, c1, rfl, _⟩ := hv.form
  clear hp how b1 h hy
  have hm := mark_one _ _ _ w1 h1
  have a1 := (Below.refl w1.heap.size w1).alloc (Nat.le_refl _) (.cells #[.slice A l.length c] 22)
  have B2 := B1.alloc B1.size (.cells #[.slice A l.length c] 22)
  have h2 := h1.below' a1
  have y2 := y1.below' a1
  have v2 := hv.below' a1
  clear a1 h1 y1 hv B1
  go_wp2_with fail
  refine hm.mono ?_
  rintro e w' ⟨rfl, rfl⟩
  generalize w1.alloc (.cells #[.slice A l.length c] 22) = w2 at *
  clear hm
  have hr := rmark_any _ _ _ w2 h2
  go_wp2_with fail
  refine hr.mono ?_
  rintro e w3 ⟨rfl, b3⟩
  have h3 := h2.below' b3
  have y3 := y2.below' b3
  have v3 := v2.below' b3
  have B3 := B2.trans (b3.mono B2.size)
  clear hr b3 h2 y2 v2 B2
  have hi := is_yes (mk l)
  have hrp := fun (w : World) (S : Nat → Prop) (v : Value) (h : BS w S v l) => rput_any S v l w h
  have hck := fun (w : World) (S S' : Nat → Prop) (x y : Value) (m : List UInt8) (h : BS w S x l) (hy : BS w S' y m) => check_any S S' x y l m w h hy
  have hib := is_yes base
  have hb := base_any
  have hrb := rbase_any
  generalize rz (mk l) = rv at *
  generalize cz (mk l) = xv at *
  generalize mput (mk l) = L at *
  generalize rz base = rb at *
  generalize cz base = xb at *
  go_wp2_with fail
  refine (hi _).mono ?_
  rintro e w4 ⟨rfl, b4⟩
  replace h3 := h3.below' b4
  replace y3 := y3.below' b4
  replace v3 := v3.below' b4
  replace B3 := B3.trans (b4.mono B3.size)
  clear b4 hi
  have hr1 := hrp w4 _ _ h3
  go_wp2_with fail
  refine hr1.mono ?_
  rintro e w5 ⟨vq, rfl, how, b5⟩
  have q5 := own_BS how
  obtain ⟨A2, c2, rfl, _⟩ := q5.form
  replace h3 := h3.below' b5
  replace y3 := y3.below' b5
  replace v3 := v3.below' b5
  replace B3 := B3.trans (b5.mono B3.size)
  clear b5 hr1 how
  have hs1 := same_to _ _ _ _ _ w5 v3 q5
  clear q5
  go_wp2_with fail
  refine hs1.mono ?_
  rintro e w6 ⟨rfl, b6⟩
  replace h3 := h3.below' b6
  replace y3 := y3.below' b6
  replace v3 := v3.below' b6
  replace B3 := B3.trans (b6.mono B3.size)
  clear b6 hs1
  have hc1 := hck w6 _ _ _ _ _ h3 v3
  rw [decide_eq_true rfl] at hc1
  go_wp2_with fail
  refine hc1.mono ?_
  rintro e w7 ⟨rfl, b7⟩
  replace h3 := h3.below' b7
  replace y3 := y3.below' b7
  replace B3 := B3.trans (b7.mono B3.size)
  clear b7 hc1 v3
  have hc2 := hck w7 _ _ _ _ _ h3 y3
  go_wp2_with fail
  refine hc2.mono ?_
  rintro e w8 ⟨rfl, b8⟩
  replace h3 := h3.below' b8
  replace y3 := y3.below' b8
  replace B3 := B3.trans (b8.mono B3.size)
  clear b8 hc2 hck
  have hr2 := hrp w8 _ _ h3
  go_wp2_with fail
  refine hr2.mono ?_
  rintro e w9 ⟨vq, rfl, how, b9⟩
  have q9 := own_BS how
  obtain ⟨A3, c3, rfl, _⟩ := q9.form
  replace y3 := y3.below' b9
  replace B3 := B3.trans (b9.mono B3.size)
  clear b9 hr2 how h3 hrp
  have hs2 := same_is _ _ _ _ _ _ w9 y3 q9
  clear y3 q9
  generalize decide (m = L) = t at *
  go_wp2_with fail
  refine hs2.mono ?_
  rintro e w10 ⟨rfl, b10⟩
  replace B3 := B3.trans (b10.mono B3.size)
  clear b10 hs2
  go_wp2_with fail
  refine (hb _).mono ?_
  rintro e w' ⟨rfl, rfl⟩
  go_wp2_with fail
  refine (hrb _).mono ?_
  rintro e w11 ⟨rfl, b11⟩
  replace B3 := B3.trans (b11.mono B3.size)
  clear b11
  go_wp2_with fail
  refine (hib _).mono ?_
  rintro e w12 ⟨rfl, b12⟩
  replace B3 := B3.trans (b12.mono B3.size)
  clear b12
  go_wp2_with fail
  refine (live_any _).mono ?_
  rintro e w13 ⟨rfl, b13⟩
  replace B3 := B3.trans (b13.mono B3.size)
  clear b13
  go_wp2
  go_ret
  exact ⟨rfl, B3⟩

theorem markOf_law {H : Type} (enc : TypeId × Value → H) (W : World) (base : Nat) (v0 : Value) (d0 : DataW H) (p0 : List MemPlace) (v1 : Value) (d1 : DataW H) (p1 : List MemPlace)
    (ok0 : Value.okWide Try.prog W .any base 22 v0) (ok1 : Value.okWide Try.prog W .any base 22 v1)
    (h0 : DataW.Trod enc Try.prog W 0 (fun _ => true) true 22 v0 d0 p0) (h1 : DataW.Trod enc Try.prog W 0 (fun _ => true) true 22 v1 d1 p1) :
    Calls Try.prog 3 #[v0, v1] W fun e W' => e = .returned (.bool true) ∧ Below W.heap.size W W' := by
  obtain ⟨l, hb⟩ := BS_of_arg ok0 h0
  obtain ⟨m, hm⟩ := BS_of_arg ok1 h1
  by_cases hl : l.length ≤ 3000
  · exact of_main _ _ _ _ l m hl W hb hm
  · exact of_out _ _ _ l (by omega) W hb
end Go.Proofs.Ytcjegcmijdkekaa
