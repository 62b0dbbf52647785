/-
  The law AllocBits over the loaded program: every numbers as bits, and every bits as numbers. No condition.
-/
import Derived.Test.YtelcfchnaglpcaaAlC
import Derived.Test.YtelcfchnaglpcaaAlS
import Derived.Test.YtelcfchnaglpcaaAlT
import Derived.Test.YtelcfchnaglpcaaAlL
namespace Go.Proofs.Ytelcfchnaglpcaa
open Go.RowKit Go.ChangeShapes Go.WideShapes Go.Joins
set_option maxRecDepth 100000
set_option linter.unusedVariables false

theorem abits_out (v0 v1 : Value) (l : List Int) (b : List UInt8) (n : Int) (hx : 300 < l.length ∨ 600 < b.length ∨ (600 < n ∧ n ≤ 4096)) (w : World) (h0 : IS w (fun b => b < w.heap.size) v0 l) (h1 : BS w (fun b => b < w.heap.size) v1 b) :
    Calls Try.prog 4 #[v0, v1, .int .i64 n] w (YesA w) := by
  obtain ⟨A, c, rfl, hc, hcm, _⟩ := h0.form
  obtain ⟨A', c', rfl, hc', hcm', _⟩ := h1.form
  clear h0 h1
  by_cases k0 : 300 < l.length
  · have D0 : decide ((300 : Int) < (l.length : Int)) = true := decide_eq_true (by omega)
    clear hx
    go_enter Try.func4, Try.ntmps4
    go_wp2_with fail
    refine (live_any _).mono ?_
    rintro e w1 ⟨rfl, b1⟩
    go_wp2
    go_ret
    exact ⟨rfl, b1⟩
  · have D0 : decide ((300 : Int) < (l.length : Int)) = false := decide_eq_false (by omega)
    by_cases k1 : 600 < b.length
    · have D1 : decide ((600 : Int) < (b.length : Int)) = true := decide_eq_true (by omega)
      clear hx
      go_enter Try.func4, Try.ntmps4
      go_wp2_with fail
      refine (live_any _).mono ?_
      rintro e w1 ⟨rfl, b1⟩
      go_wp2
      go_ret
      exact ⟨rfl, b1⟩
    · have D1 : decide ((600 : Int) < (b.length : Int)) = false := decide_eq_false (by omega)
      have D2 : decide (600 < n) = true := decide_eq_true (by omega)
      have D3 : decide (n ≤ 4096) = true := decide_eq_true (by omega)
      clear hx
      go_enter Try.func4, Try.ntmps4
      go_wp2_with fail
      refine (live_any _).mono ?_
      rintro e w1 ⟨rfl, b1⟩
      go_wp2
      go_ret
      exact ⟨rfl, b1⟩

set_option maxHeartbeats 4000000 in
theorem abits_main (v0 v1 : Value) (l : List Int) (b : List UInt8) (n : Int) (k0 : ¬ 300 < l.length) (k1 : ¬ 600 < b.length) (hD : decide (600 < n) = false ∨ (decide (600 < n) = true ∧ decide (n ≤ 4096) = false)) (w : World) (h0 : IS w (fun b => b < w.heap.size) v0 l) (h1 : BS w (fun b => b < w.heap.size) v1 b) :
    Calls Try.prog 4 #[v0, v1, .int .i64 n] w (YesA w) := by
  have hp := bits_any v0 l n (by omega) w h0
  have hq := fun W (h : IS W (fun b => b < W.heap.size) v0 l) => rbits_any v0 l n W h
  have hr := fun W (h : BS W (fun b => b < W.heap.size) v1 b) => list_any v1 b n W h
  have hs := fun W (h : BS W (fun b => b < W.heap.size) v1 b) => rlist_any v1 b n W h
  obtain ⟨A, c, rfl, hc, hcm, _⟩ := h0.form
  obtain ⟨A', c', rfl, hc', hcm', _⟩ := h1.form
  have D0 : decide ((300 : Int) < (l.length : Int)) = false := decide_eq_false (by omega)
  have D1 : decide ((600 : Int) < (b.length : Int)) = false := decide_eq_false (by omega)
  generalize bitsS l n = r at *
  generalize listS b n = s at *
  obtain ⟨X, ok⟩ := r
  obtain ⟨P, yes⟩ := s
  rcases hD with D2 | ⟨D2, D3⟩
  all_goals (
    go_enter Try.func4, Try.ntmps4
    go_wp2_with fail
    refine hp.mono ?_
    rintro _ w1 ⟨v2, rfl, q1, b1⟩
    replace q1 : BS w1 _ v2 X := q1
    replace h0 := (h0.below' b1).mono (S' := fun b => b < w1.heap.size) fun b h => Nat.lt_of_lt_of_le h b1.size
    replace h1 := (h1.below' b1).mono (S' := fun b => b < w1.heap.size) fun b h => Nat.lt_of_lt_of_le h b1.size
    clear hp
    go_wp2_with fail
    refine (hq w1 h0).mono ?_
    rintro _ w2 ⟨v3, rfl, q2, b2⟩
    replace q2 : BS w2 _ v3 X := q2
    replace q1 := q1.below' b2
    replace h1 := (h1.below' b2).mono (S' := fun b => b < w2.heap.size) fun b h => Nat.lt_of_lt_of_le h b2.size
    have B := b1.trans (b2.mono b1.size)
    clear hq b1 b2 h0
    go_wp2_with fail
    refine (hr w2 h1).mono ?_
    rintro _ w3 ⟨v4, rfl, how3, b3⟩
    have q3 : IS w3 _ v4 P := own_IS how3
    replace q1 := q1.below' b3
    replace q2 := q2.below' b3
    replace h1 := (h1.below' b3).mono (S' := fun b => b < w3.heap.size) fun b h => Nat.lt_of_lt_of_le h b3.size
    replace B := B.trans (b3.mono B.size)
    clear hr how3 b3
    go_wp2_with fail
    refine (hs w3 h1).mono ?_
    rintro _ w4 ⟨v5, rfl, how4, b4⟩
    have q4 : IS w4 _ v5 P := own_IS how4
    replace q1 := q1.below' b4
    replace q2 := q2.below' b4
    replace q3 := q3.below' b4
    replace B := B.trans (b4.mono B.size)
    clear hs how4 b4 h1
    go_wp2_with fail
    refine (same_to _ _ _ _ _ _ q1 q2).mono ?_
    rintro _ w5 ⟨rfl, b5⟩
    replace q3 := q3.below' b5
    replace q4 := q4.below' b5
    replace B := B.trans (b5.mono B.size)
    clear q1 q2 b5
    go_wp2_with fail
    refine (sameInts_is _ _ _ _ _ _ _ q3 q4).mono ?_
    rintro _ w6 ⟨rfl, b6⟩
    rw [decide_eq_true rfl]
    replace B := B.trans (b6.mono B.size)
    clear q3 q4 b6
    go_wp2_with fail
    refine (live_any _).mono ?_
    rintro _ w7 ⟨rfl, b7⟩
    replace B := B.trans (b7.mono B.size)
    go_wp2
    go_ret
    exact ⟨rfl, B⟩)

theorem allocBits_law {H : Type} (enc : TypeId × Value → H) (W : World) (base : Nat) (v0 : Value) (d0 : DataW H) (p0 : List MemPlace) (v1 : Value) (d1 : DataW H) (p1 : List MemPlace) (v2 : Value) (d2 : DataW H) (p2 : List MemPlace)
    (ok0 : Value.okWide Try.prog W .any base 24 v0) (ok1 : Value.okWide Try.prog W .any base 30 v1) (ok2 : Value.okWide Try.prog W .any base 3 v2)
    (h0 : DataW.Trod enc Try.prog W 0 (fun _ => true) true 24 v0 d0 p0) (h1 : DataW.Trod enc Try.prog W 0 (fun _ => true) true 30 v1 d1 p1) (h2 : DataW.Trod enc Try.prog W 0 (fun _ => true) true 3 v2 d2 p2) :
    Calls Try.prog 4 #[v0, v1, v2] W fun e W' => e = .returned (.bool true) ∧ Below W.heap.size W W' := by
  obtain ⟨l, hl, _⟩ := IS_of_arg ok0 h0
  obtain ⟨b, hb⟩ := BS_of_arg ok1 h1
  replace hb := (hb.lt).mono (S' := fun b => b < W.heap.size) fun b h => h.2
  obtain ⟨n, rfl, rfl, rfl, wn⟩ := open_int Try.underlying3 ok2 h2
  by_cases hx : 300 < l.length ∨ 600 < b.length ∨ (600 < n ∧ n ≤ 4096)
  · exact abits_out v0 v1 l b n hx W hl hb
  · refine abits_main v0 v1 l b n (by omega) (by omega) ?_ W hl hb
    by_cases k : 600 < n
    · exact .inr ⟨decide_eq_true k, decide_eq_false (by omega)⟩
    · exact .inl (decide_eq_false k)
end Go.Proofs.Ytelcfchnaglpcaa
