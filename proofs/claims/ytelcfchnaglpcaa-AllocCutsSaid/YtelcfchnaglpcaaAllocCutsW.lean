/-
  The law AllocCuts over the loaded program: every bytes as sectors, and how many they are. No condition.
-/
import Derived.Test.YtelcfchnaglpcaaAlU
import Derived.Test.YtelcfchnaglpcaaAlL
import Derived.Test.YtelcfchnaglpcaaSameAll
namespace Go.Proofs.Ytelcfchnaglpcaa
open Go.RowKit Go.ChangeShapes Go.WideShapes Go.Joins
set_option maxRecDepth 100000
set_option linter.unusedVariables false

theorem cuts_out (v : Value) (b : List UInt8) (n : Int) (hx : 3000 < b.length) (w : World) (h : BS w (fun b => b < w.heap.size) v b) :
    Calls Try.prog 5 #[v, .int .i64 n] w (YesA w) := by
  obtain ⟨A, c, rfl, hc, hcm⟩ := h.form
  have h1 : (3000 : Int) < b.length := by omega
  clear h
  go_enter Try.func5, Try.ntmps5
  go_wp2_with fail
  refine (live_any _).mono ?_
  rintro e w1 ⟨rfl, b1⟩
  go_wp2
  go_ret
  exact ⟨rfl, b1⟩

set_option maxHeartbeats 1000000 in
theorem cuts_main (v : Value) (b : List UInt8) (n : Int) (hn : I64 n) (hx : ¬ 3000 < b.length) (w : World) (h : BS w (fun b => b < w.heap.size) v b) :
    Calls Try.prog 5 #[v, .int .i64 n] w (YesA w) := by
  have hp := cut_any v b (by omega) w h
  have hq := fun W (h : BS W (fun b => b < W.heap.size) v b) => rcut_any v b (by omega) W h
  have hc1 := fun W => pages_any n hn W
  have hc2 := fun W => rpages_any n hn W
  obtain ⟨A, c, rfl, hc, hcm⟩ := h.form
  have h1 : ¬ (3000 : Int) < b.length := by omega
  generalize cutS b = ls at *
  generalize pagesS n = q at *
  go_enter Try.func5, Try.ntmps5
  go_wp2_with fail
  refine hp.mono ?_
  rintro _ w1 ⟨v1, rfl, how1, b1⟩
  have q1 := how1.ls
  replace h := (h.below' b1).mono (S' := fun b => b < w1.heap.size) fun b h => Nat.lt_of_lt_of_le h b1.size
  clear hp how1
  go_wp2_with fail
  refine (hq w1 h).mono ?_
  rintro _ w2 ⟨v2, rfl, how2, b2⟩
  have q2 := how2.ls
  replace q1 := q1.below' b2
  have B := b1.trans (b2.mono b1.size)
  clear hq how2 b1 b2 h
  go_wp2_with fail
  refine (sameAll_any _ _ _ _ _ _ _ q1 q2).mono ?_
  rintro _ w3 ⟨rfl, b3⟩
  replace B := B.trans (b3.mono B.size)
  clear q1 q2 b3
  rw [decide_eq_true rfl]
  go_wp2_with (first
    | (go_at_call 21; refine (hc1 _).mono ?_; rintro e w' ⟨rfl, rfl⟩)
    | (go_at_call 22; refine (hc2 _).mono ?_; rintro e w' ⟨rfl, rfl⟩))
  refine (live_any _).mono ?_
  rintro _ w4 ⟨rfl, b4⟩
  replace B := B.trans (b4.mono B.size)
  go_wp2
  go_ret
  exact ⟨rfl, B⟩

theorem allocCuts_law {H : Type} (enc : TypeId × Value → H) (W : World) (base : Nat) (v0 : Value) (d0 : DataW H) (p0 : List MemPlace) (v1 : Value) (d1 : DataW H) (p1 : List MemPlace)
    (ok0 : Value.okWide Try.prog W .any base 30 v0) (ok1 : Value.okWide Try.prog W .any base 3 v1)
    (h0 : DataW.Trod enc Try.prog W 0 (fun _ => true) true 30 v0 d0 p0) (h1 : DataW.Trod enc Try.prog W 0 (fun _ => true) true 3 v1 d1 p1) :
    Calls Try.prog 5 #[v0, v1] W fun e W' => e = .returned (.bool true) ∧ Below W.heap.size W W' := by
  obtain ⟨b, hb⟩ := BS_of_arg ok0 h0
  replace hb := (hb.lt).mono (S' := fun b => b < W.heap.size) fun b h => h.2
  obtain ⟨n, rfl, rfl, rfl, wn⟩ := open_int Try.underlying3 ok1 h1
  have hn : I64 n := by simpa [I64, Lit.wf, IntKind.min, IntKind.max, IntKind.signed, IntKind.bits] using wn
  by_cases hx : 3000 < b.length
  · exact cuts_out v0 b n hx W hb
  · exact cuts_main v0 b n hn hx W hb
end Go.Proofs.Ytelcfchnaglpcaa
