/-
  The law RuleOne over the loaded program: one text is one meaning, as the document says. No condition.
-/
import Derived.Test.YtbhebjkicooidaaDoorRvD
import Derived.Test.YtbhebjkicooidaaDoorRuD
import Derived.Test.YtbhebjkicooidaaDoorRuH
import Derived.Test.YtbhebjkicooidaaDoorRvB
namespace Go.Proofs.YtbhebjkicooidaaDoor
open Go.RowKit Go.ChangeShapes Go.WideShapes Go.Joins
set_option maxRecDepth 100000
set_option linter.unusedVariables false

set_option maxHeartbeats 4000000 in
theorem one_text (S : Nat → Prop) (f : Nat) (l m : List (Rl f)) (v u : Value) (w : World) (hS : ∀ b, S b → b < w.heap.size) (hp : Pow w) (hv : RS w S f v l) (hu : RS w S f u m) :
    Calls Tryd.prog 5 #[v, u] w fun e w' => e = .returned (.bool true) ∧ Below w.heap.size w w' := by
  have hnum := num17_any
  have HL : Hid (∀ W, Below w.heap.size w W → Calls Tryd.prog 7 #[] W fun e w' => e = .returned (.bool true) ∧ Below W.heap.size W w') := fun W hb => live17_any W (hp.below hb)
  have HM : Hid (∀ W, Below w.heap.size w W → Calls Tryd.prog 6 #[v] W (SmallAs f l W)) := fun W hb => rsmall_any S f l v W (hv.below' hb)
  have HN : Hid (∀ W, Below w.heap.size w W → Calls Tryd.prog 6 #[u] W (SmallAs f m W)) := fun W hb => rsmall_any S f m u W (hu.below' hb)
  have HP : Hid (∀ W, Below w.heap.size w W → Calls Tryd.prog 8 #[v] W fun e w' => e = .returned (.tuple #[strV (printR f l).1, .int .i64 (printR f l).2]) ∧ Below W.heap.size W w') := fun W hb =>
    print_any S f l v W (fun b sb => Nat.lt_of_lt_of_le (hS b sb) hb.size) (hp.below hb) (hv.below' hb)
  have HQ : Hid (∀ W, Below w.heap.size w W → Calls Tryd.prog 8 #[u] W fun e w' => e = .returned (.tuple #[strV (printR f m).1, .int .i64 (printR f m).2]) ∧ Below W.heap.size W w') := fun W hb =>
    print_any S f m u W (fun b sb => Nat.lt_of_lt_of_le (hS b sb) hb.size) (hp.below hb) (hu.below' hb)
  have HS : Hid (∀ W, Below w.heap.size w W → Calls Tryd.prog 17 #[v, u] W fun e w' => e = .returned (.bool (sameXL (sameR f f) l m)) ∧ Below W.heap.size W w') := fun W hb =>
    rsame_any S S f l m v u W (hv.below' hb) (hu.below' hb)
  have HE : Hid ((printR f l).2 = 0 → (printR f m).2 = 0 → decide ((printR f l).1 = (printR f m).1) = sameXL (sameR f f) l m) := fun h1 h2 => print_same h1 h2
  obtain ⟨A0, c0, rfl, _⟩ := hv.form
  obtain ⟨A1, c1, rfl, _⟩ := hu.form
  clear hv hu hp hS
  unfold SmallAs at HM HN
  obtain ⟨s, hs⟩ : ∃ s : ByteArray, s = ⟨(printR f l).1.toArray⟩ := ⟨_, rfl⟩
  obtain ⟨t, ht⟩ : ∃ t : ByteArray, t = ⟨(printR f m).1.toArray⟩ := ⟨_, rfl⟩
  have gq := eq_txt s t _ _ hs ht
  unfold strV at *
  rw [← hs] at HP
  rw [← ht] at HQ
  obtain ⟨bt, hbt⟩ : ∃ b, b = decide ((printR f l).1 = (printR f m).1) := ⟨_, rfl⟩
  rw [← hbt] at gq HE
  clear hs ht hbt
  generalize (printR f l).2 = e1 at *
  generalize (printR f m).2 = e2 at *
  generalize sameXL (sameR f f) l m = sm at *
  have B := Below.refl w.heap.size w
  go_enter Tryd.func5, Tryd.ntmps5
  go_wp2_with fail
  refine (HM.out _ B).mono ?_
  rintro e w1 ⟨b, rfl, _, b1⟩
  replace B := B.trans (b1.mono B.size)
  clear b1 HM
  cases b with
  | false =>
    go_wp2_with (go_at_call 7; refine (HL.out _ B).mono ?_; rintro e w1 ⟨rfl, b1⟩; replace B := B.trans (b1.mono B.size); clear b1)
    go_ret
    exact ⟨rfl, B⟩
  | true =>
    go_wp2_with fail
    refine (HN.out _ B).mono ?_
    rintro e w1 ⟨b, rfl, _, b1⟩
    replace B := B.trans (b1.mono B.size)
    clear b1 HN
    cases b with
    | false =>
      go_wp2_with (go_at_call 7; refine (HL.out _ B).mono ?_; rintro e w1 ⟨rfl, b1⟩; replace B := B.trans (b1.mono B.size); clear b1)
      go_ret
      exact ⟨rfl, B⟩
    | true =>
      by_cases h1 : e1 = 0
      case neg =>
        have E : (e1 != 0) = true := bne_iff_ne.2 h1
        clear HE h1
        go_wp2_with (first
          | (go_at_call 8; first | (refine (HP.out _ B).mono ?_; rintro e w1 ⟨rfl, b1⟩; replace B := B.trans (b1.mono B.size); clear b1 HP) | (refine (HQ.out _ B).mono ?_; rintro e w1 ⟨rfl, b1⟩; replace B := B.trans (b1.mono B.size); clear b1))
          | (go_at_call 7; refine (HL.out _ B).mono ?_; rintro e w1 ⟨rfl, b1⟩; replace B := B.trans (b1.mono B.size); clear b1)
          | (go_at_call 10; refine (hnum _ _).mono ?_; rintro e w4 ⟨rfl, rfl⟩))
        go_ret
        exact ⟨rfl, B⟩
      subst h1
      by_cases h2 : e2 = 0
      case neg =>
        have E : (e2 != 0) = true := bne_iff_ne.2 h2
        clear HE h2
        go_wp2_with (first
          | (go_at_call 8; first | (refine (HP.out _ B).mono ?_; rintro e w1 ⟨rfl, b1⟩; replace B := B.trans (b1.mono B.size); clear b1 HP) | (refine (HQ.out _ B).mono ?_; rintro e w1 ⟨rfl, b1⟩; replace B := B.trans (b1.mono B.size); clear b1))
          | (go_at_call 7; refine (HL.out _ B).mono ?_; rintro e w1 ⟨rfl, b1⟩; replace B := B.trans (b1.mono B.size); clear b1)
          | (go_at_call 10; refine (hnum _ _).mono ?_; rintro e w4 ⟨rfl, rfl⟩))
        go_ret
        exact ⟨rfl, B⟩
      subst h2
      obtain rfl := HE.out rfl rfl
      clear HE
      go_wp2_with (first
        | (go_at_call 8; first | (refine (HP.out _ B).mono ?_; rintro e w1 ⟨rfl, b1⟩; replace B := B.trans (b1.mono B.size); clear b1 HP) | (refine (HQ.out _ B).mono ?_; rintro e w1 ⟨rfl, b1⟩; replace B := B.trans (b1.mono B.size); clear b1))
        | (go_at_call 17; refine (HS.out _ B).mono ?_; rintro e w1 ⟨rfl, b1⟩; replace B := B.trans (b1.mono B.size); clear b1)
        | (go_at_call 7; refine (HL.out _ B).mono ?_; rintro e w1 ⟨rfl, b1⟩; replace B := B.trans (b1.mono B.size); clear b1)
        | (go_at_call 10; refine (hnum _ _).mono ?_; rintro e w4 ⟨rfl, rfl⟩))
      go_ret
      exact ⟨rfl, B⟩

theorem ruleOne_law {H : Type} (enc : TypeId × Value → H) (W : World) (base : Nat) (hp : Pow W)
    (v0 : Value) (d0 : DataW H) (p0 : List MemPlace) (v1 : Value) (d1 : DataW H) (p1 : List MemPlace) (k0 : Value.okWide Tryd.prog W .any base 22 v0) (k1 : Value.okWide Tryd.prog W .any base 22 v1)
    (h0 : DataW.Trod enc Tryd.prog W 0 (fun _ => true) true 22 v0 d0 p0) (h1 : DataW.Trod enc Tryd.prog W 0 (fun _ => true) true 22 v1 d1 p1) :
    Calls Tryd.prog 5 #[v0, v1] W fun e W' => e = .returned (.bool true) ∧ Below W.heap.size W W' := by
  obtain ⟨n, hn⟩ := open_rules k0 h0
  obtain ⟨n', hn'⟩ := open_rules k1 h1
  obtain ⟨l, hl⟩ := hn (n + n') (by omega)
  obtain ⟨m, hm⟩ := hn' (n + n') (by omega)
  exact one_text _ (n + n') l m v0 v1 W (fun b h => h) hp hl hm
end Go.Proofs.YtbhebjkicooidaaDoor
