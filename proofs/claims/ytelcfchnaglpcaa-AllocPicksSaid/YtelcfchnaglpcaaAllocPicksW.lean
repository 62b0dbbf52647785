/-
  The law AllocPicks over the loaded program: which places are picked, and how many are used. No condition.
-/
import Derived.Test.YtelcfchnaglpcaaAlR
import Derived.Test.YtelcfchnaglpcaaAlL
namespace Go.Proofs.Ytelcfchnaglpcaa
open Go.RowKit Go.ChangeShapes Go.WideShapes Go.Joins
set_option maxRecDepth 100000
set_option linter.unusedVariables false

theorem picks_out (v : Value) (us : List Bool) (n : Int) (hx : 3000 < us.length) (w : World) (h : BO w (fun b => b < w.heap.size) v us) :
    Calls Try.prog 3 #[v, .int .i64 n] w (YesA w) := by
  obtain ⟨A, c, rfl, hc, hcm⟩ := h.form
  have h1 : (3000 : Int) < us.length := by omega
  clear h
  go_enter Try.func3, Try.ntmps3
  go_wp2_with fail
  refine (live_any _).mono ?_
  rintro e w1 ⟨rfl, b1⟩
  go_wp2
  go_ret
  exact ⟨rfl, b1⟩

set_option maxHeartbeats 1000000 in
theorem picks_main (v : Value) (us : List Bool) (n : Int) (hx : ¬ 3000 < us.length) (w : World) (h : BO w (fun b => b < w.heap.size) v us) :
    Calls Try.prog 3 #[v, .int .i64 n] w (YesA w) := by
  have hp := pick_any v us n (by omega) w h
  have hq := fun W (h : BO W (fun b => b < W.heap.size) v us) => rpick_any v us n (by omega) W h
  have hc1 := fun W (h : BO W (fun b => b < W.heap.size) v us) => count_any _ v us W h
  have hc2 := fun W (h : BO W (fun b => b < W.heap.size) v us) => rcount_any _ v us W h
  obtain ⟨A, c, rfl, hc, hcm⟩ := h.form
  have h1 : ¬ (3000 : Int) < us.length := by omega
  generalize pickS us n = r at *
  generalize countS us = q at *
  obtain ⟨L, ok⟩ := r
  go_enter Try.func3, Try.ntmps3
  go_wp2_with fail
  refine hp.mono ?_
  rintro _ w1 ⟨v1, rfl, how1, b1⟩
  have q1 : IS w1 _ v1 L := own_IS how1
  replace h := (h.below' b1).mono (S' := fun b => b < w1.heap.size) fun b h => Nat.lt_of_lt_of_le h b1.size
  clear hp how1
  go_wp2_with fail
  refine (hq w1 h).mono ?_
  rintro _ w2 ⟨v2, rfl, how2, b2⟩
  have q2 : IS w2 _ v2 L := own_IS how2
  replace h := (h.below' b2).mono (S' := fun b => b < w2.heap.size) fun b h => Nat.lt_of_lt_of_le h b2.size
  replace q1 := q1.below' b2
  have B := b1.trans (b2.mono b1.size)
  clear hq how2 b1 b2
  go_wp2_with fail
  refine (sameInts_is _ _ _ _ _ _ _ q1 q2).mono ?_
  rintro _ w3 ⟨rfl, b3⟩
  replace h := (h.below' b3).mono (S' := fun b => b < w3.heap.size) fun b h => Nat.lt_of_lt_of_le h b3.size
  replace B := B.trans (b3.mono B.size)
  clear q1 q2 b3
  rw [decide_eq_true rfl]
  have hn1 := hc1 w3 h
  have hn2 := hc2 w3 h
  clear hc1 hc2 h
  go_wp2_with (first
    | (go_at_call 11; refine hn1.mono ?_; rintro e w' ⟨rfl, rfl⟩)
    | (go_at_call 12; refine hn2.mono ?_; rintro e w' ⟨rfl, rfl⟩))
  refine (live_any _).mono ?_
  rintro _ w4 ⟨rfl, b4⟩
  replace B := B.trans (b4.mono B.size)
  go_wp2
  go_ret
  exact ⟨rfl, B⟩

theorem allocPicks_law {H : Type} (enc : TypeId × Value → H) (W : World) (base : Nat) (v0 : Value) (d0 : DataW H) (p0 : List MemPlace) (v1 : Value) (d1 : DataW H) (p1 : List MemPlace)
    (ok0 : Value.okWide Try.prog W .any base 22 v0) (ok1 : Value.okWide Try.prog W .any base 3 v1)
    (h0 : DataW.Trod enc Try.prog W 0 (fun _ => true) true 22 v0 d0 p0) (h1 : DataW.Trod enc Try.prog W 0 (fun _ => true) true 3 v1 d1 p1) :
    Calls Try.prog 3 #[v0, v1] W fun e W' => e = .returned (.bool true) ∧ Below W.heap.size W W' := by
  obtain ⟨us, hu⟩ := BO_of_arg ok0 h0
  obtain ⟨n, rfl, rfl, rfl, wn⟩ := open_int Try.underlying3 ok1 h1
  by_cases hx : 3000 < us.length
  · exact picks_out v0 us n hx W hu
  · exact picks_main v0 us n hx W hu
end Go.Proofs.Ytelcfchnaglpcaa
