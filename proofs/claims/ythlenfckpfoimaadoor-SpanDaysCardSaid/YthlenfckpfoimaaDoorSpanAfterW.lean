/-
  The law SpanAfter over the loaded program: which tick comes behind every other one. No condition but that the library's table of powers of ten is as laid.
-/
import Derived.Test.YthlenfckpfoimaaDoorSpH
import Derived.Test.YthlenfckpfoimaaDoorSpL
import Derived.Test.YthlenfckpfoimaaDoorArgs
namespace Go.Proofs.YthlenfckpfoimaaDoor
open Go.RowKit Go.ChangeShapes Go.WideShapes Go.Joins
set_option maxRecDepth 100000
set_option linter.unusedVariables false

theorem i64_wf {n : Int} (h : (Lit.int .i64 n).wf = true) : I64 n := by
  have hx : -9223372036854775808 ≤ n ∧ n ≤ 9223372036854775807 := by simpa [Lit.wf, IntKind.min, IntKind.max, IntKind.signed, IntKind.bits] using h
  exact hx

theorem add_more (t n : Int) (h : (addD t n).2 = 0) : t < (addD t n).1 := by
  unfold addD at h ⊢
  by_cases h1 : t < 0 ∨ 1099511627776 < t ∨ n < 1
  · rw [if_pos h1] at h; simp at h
  · rw [if_neg h1] at h ⊢
    by_cases h2 : 1099511627776 - t < n
    · rw [if_pos h2] at h; simp at h
    · rw [if_neg h2]
      simp only
      omega

theorem span_after (t n : Int) (ht : I64 t) (hn : I64 n) (w : World) (hp : Pow w) :
    Calls Tryd.prog 4 #[.int .i64 t, .int .i64 n] w fun e w' => e = .returned (.bool true) ∧ Below w.heap.size w w' := by
  have h1 := after15_any t n ht hn
  have h2 := rafter15_any t n ht hn
  have h3 := add15_any t n ht hn
  have h4 := radd15_any t n ht hn
  have h5 := live15_any w hp
  have h6 := add_more t n
  generalize addD t n = q at *
  generalize afterD t n = p at *
  obtain ⟨p1, p2⟩ := p
  obtain ⟨q1, q2⟩ := q
  simp only at h1 h2 h3 h4 h6
  clear ht hn
  by_cases hq : q2 = 0
  · have h7 := h6 hq
    subst hq
    clear h6
    go_enter Tryd.func4, Tryd.ntmps4
    go_wp2_with (first
      | (go_at_call 14; refine (h1 _).mono ?_; rintro e w' ⟨rfl, rfl⟩)
      | (go_at_call 15; refine (h2 _).mono ?_; rintro e w' ⟨rfl, rfl⟩)
      | (go_at_call 16; refine (h3 _).mono ?_; rintro e w' ⟨rfl, rfl⟩)
      | (go_at_call 17; refine (h4 _).mono ?_; rintro e w' ⟨rfl, rfl⟩)
      | (go_at_call 11; refine (num15_any _ _).mono ?_; rintro e w' ⟨rfl, rfl⟩)
      | (go_at_call 6; refine h5.mono ?_; rintro e w' ⟨rfl, b⟩))
    go_ret
    exact ⟨rfl, b⟩
  · have h7 : (q2 != 0) = true := by simpa using hq
    clear h6
    go_enter Tryd.func4, Tryd.ntmps4
    go_wp2_with (first
      | (go_at_call 14; refine (h1 _).mono ?_; rintro e w' ⟨rfl, rfl⟩)
      | (go_at_call 15; refine (h2 _).mono ?_; rintro e w' ⟨rfl, rfl⟩)
      | (go_at_call 16; refine (h3 _).mono ?_; rintro e w' ⟨rfl, rfl⟩)
      | (go_at_call 17; refine (h4 _).mono ?_; rintro e w' ⟨rfl, rfl⟩)
      | (go_at_call 11; refine (num15_any _ _).mono ?_; rintro e w' ⟨rfl, rfl⟩)
      | (go_at_call 6; refine h5.mono ?_; rintro e w' ⟨rfl, b⟩))
    go_ret
    exact ⟨rfl, b⟩

theorem spanAfter_law {H : Type} (enc : TypeId × Value → H) (W : World) (base : Nat) (hp : Pow W)
    (v0 : Value) (d0 : DataW H) (p0 : List MemPlace) (v1 : Value) (d1 : DataW H) (p1 : List MemPlace)
    (k0 : Value.okWide Tryd.prog W .any base 3 v0) (k1 : Value.okWide Tryd.prog W .any base 3 v1)
    (h0 : DataW.Trod enc Tryd.prog W 0 (fun _ => true) true 3 v0 d0 p0) (h1 : DataW.Trod enc Tryd.prog W 0 (fun _ => true) true 3 v1 d1 p1) :
    Calls Tryd.prog 4 #[v0, v1] W fun e W' => e = .returned (.bool true) ∧ Below W.heap.size W W' := by
  obtain ⟨t, rfl, rfl, rfl, w0⟩ := open_int Tryd.underlying3 k0 h0
  obtain ⟨n, rfl, rfl, rfl, w1⟩ := open_int Tryd.underlying3 k1 h1
  exact span_after t n (i64_wf w0) (i64_wf w1) W hp
end Go.Proofs.YthlenfckpfoimaaDoor
