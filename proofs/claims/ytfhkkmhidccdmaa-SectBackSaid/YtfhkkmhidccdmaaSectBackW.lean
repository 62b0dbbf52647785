/-
  The law SectBack over the loaded program: what was put is got, and what is got, put again, is what it was. No condition.
-/
import Derived.Test.YtfhkkmhidccdmaaSeL
import Derived.Test.YtfhkkmhidccdmaaArgs
namespace Go.Proofs.Ytfhkkmhidccdmaa
open Go.RowKit Gau Go.ChangeShapes Go.WideShapes Go.Joins
set_option linter.unusedVariables false

theorem back_out (k : Int) (S S' : Nat → Prop) (v u : Value) (l s : List UInt8) (hx : 2000 < l.length ∨ 2000 < s.length) (w : World) (h : BS w S v l) (hs : BS w S' u s) :
    Calls Try.prog 5 #[.int .i64 k, v, u] w (Yes9 w) := by
  obtain ⟨A, c, rfl, _⟩ := h.form
  obtain ⟨A', c', rfl, _⟩ := hs.form
  clear h hs
  by_cases h1 : 2000 < l.length
  · have h2 : (2000 : Int) < l.length := by omega
    clear hx
    go_enter Try.func5, Try.ntmps5
    go_wp2_with fail
    refine (live_any _).mono ?_
    rintro e w1 ⟨rfl, b1⟩
    go_wp2
    go_ret
    exact ⟨rfl, b1⟩
  · have h2 : (2000 : Int) < s.length := by omega
    have h3 : ¬ (2000 : Int) < l.length := by omega
    clear hx
    go_enter Try.func5, Try.ntmps5
    go_wp2_with fail
    refine (live_any _).mono ?_
    rintro e w1 ⟨rfl, b1⟩
    go_wp2
    go_ret
    exact ⟨rfl, b1⟩

set_option maxRecDepth 100000 in
set_option maxHeartbeats 1000000 in
theorem back_yes (k : Int) (S S' : Nat → Prop) (v u : Value) (l s : List UInt8) (h1 : ¬ 2000 < l.length) (h2 : ¬ 2000 < s.length) (he : (putS k l).2 = 0) (w : World) (h : BS w S v l) (hs : BS w S' u s) :
    Calls Try.prog 5 #[.int .i64 k, v, u] w (Yes9 w) := by
  have hp := put_sect k S v l w h
  have hg := get_put he
  obtain ⟨A, c, rfl, _⟩ := h.form
  obtain ⟨A', c', rfl, _⟩ := hs.form
  have h3 : ¬ (2000 : Int) < l.length := by omega
  have h4 : ¬ (2000 : Int) < s.length := by omega
  clear h1 h2
  generalize putS k l = r at *
  obtain ⟨p, e⟩ := r
  dsimp only at he hg
  subst he
  go_enter Try.func5, Try.ntmps5
  go_wp2_with fail
  refine hp.mono ?_
  rintro _ w1 ⟨v1, rfl, how1, b1⟩
  have q1 : BS w1 _ v1 p := own_BS how1
  replace h := h.below' b1
  replace hs := hs.below' b1
  have B := b1
  clear hp how1 b1
  have hgx := get_sect _ v1 p w1 q1
  rw [hg] at hgx
  clear hg
  go_wp2_with (go_at_call 11; refine (num9_any _ _).mono ?_; rintro _ w' ⟨rfl, rfl⟩)
  refine hgx.mono ?_
  rintro _ w2 ⟨v2, rfl, how2, b2⟩
  have q2 : BS w2 _ v2 l := own_BS how2
  replace h := h.below' b2
  replace hs := hs.below' b2
  replace B := B.trans (b2.mono B.size)
  clear b2 how2 hgx q1
  go_wp2_with (go_at_call 11; refine (num9_any _ _).mono ?_; rintro _ w' ⟨rfl, rfl⟩)
  refine (same_to _ _ _ _ _ w2 q2 h).mono ?_
  rintro _ w3 ⟨rfl, b3⟩
  replace hs := hs.below' b3
  replace B := B.trans (b3.mono B.size)
  clear b3 q2 h
  go_wp2_with fail
  refine (get_sect _ _ _ _ hs).mono ?_
  rintro _ w5 ⟨v5, rfl, how5, b5⟩
  have q5 : BS w5 _ v5 _ := own_BS how5
  replace hs := hs.below' b5
  replace B := B.trans (b5.mono B.size)
  clear b5 how5
  by_cases hf : (getS s).2.2 = 0
  · have hps := put_get hf
    rw [hf]
    generalize (getS s).1 = n at *
    generalize (getS s).2.1 = body2 at *
    clear hf
    have hp2 := put_sect n _ v5 body2 w5 q5
    rw [hps] at hp2
    go_wp2_with (go_at_call 11; refine (num9_any _ _).mono ?_; rintro _ w' ⟨rfl, rfl⟩)
    refine hp2.mono ?_
    rintro _ w6 ⟨v6, rfl, how6, b6⟩
    have q6 : BS w6 _ v6 s := own_BS how6
    replace hs := hs.below' b6
    replace B := B.trans (b6.mono B.size)
    clear b6 how6 hp2 hps q5
    go_wp2_with (go_at_call 11; refine (num9_any _ _).mono ?_; rintro _ w' ⟨rfl, rfl⟩)
    refine (same_to _ _ _ _ _ w6 q6 hs).mono ?_
    rintro _ w7 ⟨rfl, b7⟩
    replace B := B.trans (b7.mono B.size)
    clear b7 q6 hs
    go_wp2_with fail
    refine (live_any _).mono ?_
    rintro _ w8 ⟨rfl, b8⟩
    replace B := B.trans (b8.mono B.size)
    go_wp2
    go_ret
    exact ⟨rfl, B⟩
  · have hne1 : decide ((getS s).2.2 = 0) = false := decide_eq_false hf
    have hne2 : ((getS s).2.2 != 0) = true := bne_iff_ne.2 hf
    generalize (getS s).2.2 = f at *
    generalize (getS s).1 = n at *
    generalize (getS s).2.1 = body2 at *
    clear q5 hs
    go_wp2_with (go_at_call 11; refine (num9_any _ _).mono ?_; rintro _ w' ⟨rfl, rfl⟩)
    refine (live_any _).mono ?_
    rintro _ w8 ⟨rfl, b8⟩
    replace B := B.trans (b8.mono B.size)
    go_wp2
    go_ret
    exact ⟨rfl, B⟩

set_option maxRecDepth 100000 in
set_option maxHeartbeats 1000000 in
theorem back_no (k : Int) (S S' : Nat → Prop) (v u : Value) (l s : List UInt8) (h1 : ¬ 2000 < l.length) (h2 : ¬ 2000 < s.length) (he : ¬ (putS k l).2 = 0) (w : World) (h : BS w S v l) (hs : BS w S' u s) :
    Calls Try.prog 5 #[.int .i64 k, v, u] w (Yes9 w) := by
  have hp := put_sect k S v l w h
  obtain ⟨A, c, rfl, _⟩ := h.form
  obtain ⟨A', c', rfl, _⟩ := hs.form
  have h3 : ¬ (2000 : Int) < l.length := by omega
  have h4 : ¬ (2000 : Int) < s.length := by omega
  clear h1 h2
  generalize putS k l = r at *
  obtain ⟨p, e⟩ := r
  dsimp only at he
  have hqe1 : decide (e = 0) = false := decide_eq_false he
  have hqe2 : (e == 0) = false := beq_eq_false_iff_ne.2 he
  go_enter Try.func5, Try.ntmps5
  go_wp2_with fail
  refine hp.mono ?_
  rintro _ w1 ⟨v1, rfl, how1, b1⟩
  replace hs := hs.below' b1
  have B := b1
  clear hp how1 b1 h
  go_wp2_with (go_at_call 11; refine (num9_any _ _).mono ?_; rintro _ w' ⟨rfl, rfl⟩)
  refine (get_sect _ _ _ _ hs).mono ?_
  rintro _ w5 ⟨v5, rfl, how5, b5⟩
  have q5 : BS w5 _ v5 _ := own_BS how5
  replace hs := hs.below' b5
  replace B := B.trans (b5.mono B.size)
  clear b5 how5
  by_cases hf : (getS s).2.2 = 0
  · have hps := put_get hf
    rw [hf]
    generalize (getS s).1 = n at *
    generalize (getS s).2.1 = body2 at *
    clear hf
    have hp2 := put_sect n _ v5 body2 w5 q5
    rw [hps] at hp2
    go_wp2_with (go_at_call 11; refine (num9_any _ _).mono ?_; rintro _ w' ⟨rfl, rfl⟩)
    refine hp2.mono ?_
    rintro _ w6 ⟨v6, rfl, how6, b6⟩
    have q6 : BS w6 _ v6 s := own_BS how6
    replace hs := hs.below' b6
    replace B := B.trans (b6.mono B.size)
    clear b6 how6 hp2 hps q5
    go_wp2_with (go_at_call 11; refine (num9_any _ _).mono ?_; rintro _ w' ⟨rfl, rfl⟩)
    refine (same_to _ _ _ _ _ w6 q6 hs).mono ?_
    rintro _ w7 ⟨rfl, b7⟩
    replace B := B.trans (b7.mono B.size)
    clear b7 q6 hs
    go_wp2_with fail
    refine (live_any _).mono ?_
    rintro _ w8 ⟨rfl, b8⟩
    replace B := B.trans (b8.mono B.size)
    go_wp2
    go_ret
    exact ⟨rfl, B⟩
  · have hne1 : decide ((getS s).2.2 = 0) = false := decide_eq_false hf
    have hne2 : ((getS s).2.2 != 0) = true := bne_iff_ne.2 hf
    generalize (getS s).2.2 = f at *
    generalize (getS s).1 = n at *
    generalize (getS s).2.1 = body2 at *
    clear q5 hs
    go_wp2_with (go_at_call 11; refine (num9_any _ _).mono ?_; rintro _ w' ⟨rfl, rfl⟩)
    refine (live_any _).mono ?_
    rintro _ w8 ⟨rfl, b8⟩
    replace B := B.trans (b8.mono B.size)
    go_wp2
    go_ret
    exact ⟨rfl, B⟩

theorem sectBack_law {H : Type} (enc : TypeId × Value → H) (W : World) (base : Nat) (v0 : Value) (d0 : DataW H) (p0 : List MemPlace) (v1 : Value) (d1 : DataW H) (p1 : List MemPlace) (v2 : Value) (d2 : DataW H) (p2 : List MemPlace)
    (ok0 : Value.okWide Try.prog W .any base 3 v0) (ok1 : Value.okWide Try.prog W .any base 22 v1) (ok2 : Value.okWide Try.prog W .any base 22 v2)
    (h0 : DataW.Trod enc Try.prog W 0 (fun _ => true) true 3 v0 d0 p0) (h1 : DataW.Trod enc Try.prog W 0 (fun _ => true) true 22 v1 d1 p1)
    (h2 : DataW.Trod enc Try.prog W 0 (fun _ => true) true 22 v2 d2 p2) :
    Calls Try.prog 5 #[v0, v1, v2] W fun e W' => e = .returned (.bool true) ∧ Below W.heap.size W W' := by
  obtain ⟨n, rfl, rfl, rfl, wn⟩ := open_int Try.underlying3 ok0 h0
  obtain ⟨l, hl⟩ := BS_of_arg ok1 h1
  obtain ⟨s, hs⟩ := BS_of_arg ok2 h2
  by_cases hx : 2000 < l.length ∨ 2000 < s.length
  · exact back_out n _ _ _ _ l s hx W hl hs
  · by_cases he : (putS n l).2 = 0
    · exact back_yes n _ _ _ _ l s (by omega) (by omega) he W hl hs
    · exact back_no n _ _ _ _ l s (by omega) (by omega) he W hl hs
end Go.Proofs.Ytfhkkmhidccdmaa
