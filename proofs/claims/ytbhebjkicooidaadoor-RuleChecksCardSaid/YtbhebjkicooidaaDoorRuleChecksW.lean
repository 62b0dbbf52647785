/-
  The law RuleChecks over the loaded program: which rules may be, and how they are written, as the document says. No condition.
-/
import Derived.Test.YtbhebjkicooidaaDoorRvD
import Derived.Test.YtbhebjkicooidaaDoorRuU
import Derived.Test.YtbhebjkicooidaaDoorRuD
namespace Go.Proofs.YtbhebjkicooidaaDoor
open Go.RowKit Go.ChangeShapes Go.WideShapes Go.Joins
set_option maxRecDepth 100000
set_option linter.unusedVariables false

set_option maxHeartbeats 4000000 in
theorem rule_checks (S : Nat → Prop) (f : Nat) (l : List (Rl f)) (v : Value) (w : World) (hS : ∀ b, S b → b < w.heap.size) (hp : Pow w) (hv : RS w S f v l) :
    Calls Tryd.prog 3 #[v] w fun e w' => e = .returned (.bool true) ∧ Below w.heap.size w w' := by
  have hsm := rsmall_any S f l v w hv
  have hnum := num17_any
  have HL : Hid (∀ W, Below w.heap.size w W → Calls Tryd.prog 7 #[] W fun e w' => e = .returned (.bool true) ∧ Below W.heap.size W w') := fun W hb => live17_any W (hp.below hb)
  have HP : Hid (∀ W, Below w.heap.size w W → Calls Tryd.prog 8 #[v] W fun e w' => e = .returned (.tuple #[strV (printR f l).1, .int .i64 (printR f l).2]) ∧ Below W.heap.size W w') := fun W hb =>
    print_any S f l v W (fun b sb => Nat.lt_of_lt_of_le (hS b sb) hb.size) (hp.below hb) (hv.below' hb)
  have HQ : Hid (∀ W, Below w.heap.size w W → Calls Tryd.prog 9 #[v] W fun e w' => e = .returned (.tuple #[strV (printR f l).1, .int .i64 (printR f l).2]) ∧ Below W.heap.size W w') := fun W hb =>
    rprint_any S f l v W (hv.below' hb)
  have HC : Hid (∀ W, Below w.heap.size w W → Calls Tryd.prog 11 #[v] W fun e w' => e = .returned (.int .i64 (checkR f l)) ∧ Below W.heap.size W w') := fun W hb =>
    check_any S f l v W (fun b sb => Nat.lt_of_lt_of_le (hS b sb) hb.size) (hv.below' hb)
  have HD : Hid (∀ W, Below w.heap.size w W → Calls Tryd.prog 12 #[v] W fun e w' => e = .returned (.int .i64 (checkR f l)) ∧ Below W.heap.size W w') := fun W hb =>
    rcheck_any S f l v W (hv.below' hb)
  obtain ⟨A0, c0, rfl, _⟩ := hv.form
  clear hv hp hS
  unfold SmallAs at hsm
  generalize checkR f l = ck at *
  generalize (printR f l).2 = er at *
  generalize (printR f l).1 = tx at *
  unfold strV at *
  generalize (⟨tx.toArray⟩ : ByteArray) = s at *
  have B := Below.refl w.heap.size w
  go_enter Tryd.func3, Tryd.ntmps3
  go_wp2_with fail
  refine hsm.mono ?_
  rintro e w1 ⟨b, rfl, _, b1⟩
  replace B := B.trans (b1.mono B.size)
  clear b1 hsm
  cases b with
  | false =>
    go_wp2_with (go_at_call 7; refine (HL.out _ B).mono ?_; rintro e w1 ⟨rfl, b1⟩; replace B := B.trans (b1.mono B.size); clear b1)
    go_ret
    exact ⟨rfl, B⟩
  | true =>
    go_wp2_with (first
      | (go_at_call 8; refine (HP.out _ B).mono ?_; rintro e w1 ⟨rfl, b1⟩; replace B := B.trans (b1.mono B.size); clear b1)
      | (go_at_call 9; refine (HQ.out _ B).mono ?_; rintro e w1 ⟨rfl, b1⟩; replace B := B.trans (b1.mono B.size); clear b1)
      | (go_at_call 11; refine (HC.out _ B).mono ?_; rintro e w1 ⟨rfl, b1⟩; replace B := B.trans (b1.mono B.size); clear b1)
      | (go_at_call 12; refine (HD.out _ B).mono ?_; rintro e w1 ⟨rfl, b1⟩; replace B := B.trans (b1.mono B.size); clear b1)
      | (go_at_call 7; refine (HL.out _ B).mono ?_; rintro e w1 ⟨rfl, b1⟩; replace B := B.trans (b1.mono B.size); clear b1)
      | (go_at_call 10; refine (hnum _ _).mono ?_; rintro e w4 ⟨rfl, rfl⟩))
    go_ret
    exact ⟨rfl, B⟩

theorem ruleChecks_law {H : Type} (enc : TypeId × Value → H) (W : World) (base : Nat) (hp : Pow W)
    (v0 : Value) (d0 : DataW H) (p0 : List MemPlace) (k0 : Value.okWide Tryd.prog W .any base 22 v0)
    (h0 : DataW.Trod enc Tryd.prog W 0 (fun _ => true) true 22 v0 d0 p0) :
    Calls Tryd.prog 3 #[v0] W fun e W' => e = .returned (.bool true) ∧ Below W.heap.size W W' := by
  obtain ⟨n, hn⟩ := open_rules k0 h0
  obtain ⟨l, hl⟩ := hn n (Nat.le_refl _)
  exact rule_checks _ n l v0 W (fun b h => h) hp hl
end Go.Proofs.YtbhebjkicooidaaDoor
