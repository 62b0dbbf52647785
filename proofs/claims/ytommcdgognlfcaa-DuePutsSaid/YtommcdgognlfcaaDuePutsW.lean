/-
  The law DuePuts over the loaded program: a list of milestones with one more, or none, is told as the document says. No condition but that names are of a length that a machine can have.
-/
import Derived.Test.YtommcdgognlfcaaDuL
import Derived.Test.YtommcdgognlfcaaDuS
import Derived.Test.YtommcdgognlfcaaDuU
import Derived.Test.YtommcdgognlfcaaDuZ
namespace Go.Proofs.Ytommcdgognlfcaa
open Go.RowKit Go.ChangeShapes Go.WideShapes Go.Joins
set_option maxRecDepth 100000
set_option linter.unusedVariables false

set_option maxHeartbeats 8000000 in
theorem puts_law (S : Nat → Prop) (m : Ml) (hmi : I64 m.2) (hml : m.1.length ≤ 140737488355328) (ms : List Ml) (vm : Value) (w : World) (hS : ∀ b, S b → b < w.heap.size) (hm : ML w S vm ms) (hn : ∀ m ∈ ms, m.1.length ≤ 140737488355328) :
    Calls Try.prog 5 #[vm, .agg #[strV m.1, .int .i64 m.2]] w fun e w' => e = .returned (.bool true) ∧ Below w.heap.size w w' := by
  have hmm := hm
  obtain ⟨Am, capm, rfl, hlm, hcm⟩ := hm.form
  have hlen : ms.length ≤ 9223372036854775807 := by unfold maxLen at hcm; omega
  have kb := KB.new w 43 #[strV m.1, .int .i64 m.2]
  have B0 := (Below.refl w.heap.size w).alloc (Nat.le_refl _) (.cells #[strV m.1, .int .i64 m.2] 43)
  have HP : Hid (ms.length ≤ 50 → ∀ W, Below w.heap.size w W → Calls Try.prog 17 #[.slice Am ms.length capm, .agg #[strV m.1, .int .i64 m.2]] W (PutAs W (putM ms m))) := fun hf W hb => put19_any S m hmi hml _ ms W (hmm.below' hb) hf hn
  have HR : Hid (ms.length ≤ 50 → ∀ W, Below w.heap.size w W → Calls Try.prog 18 #[.slice Am ms.length capm, .agg #[strV m.1, .int .i64 m.2]] W (PutAs W (putM ms m))) := fun hf W hb => rput19_any S m hmi (by unfold maxLen; omega) _ ms W (fun b h => Nat.lt_of_lt_of_le (hS b h) hb.size) (hmm.below' hb) hf
  have HL : Hid (∀ W, Calls Try.prog 8 #[] W fun e w' => e = .returned (.bool true) ∧ Below W.heap.size W w') := fun W => live19_any W
  clear hmm hm hn hS hml hmi
  generalize putM ms m = r at *
  generalize m.2 = t at *
  unfold strV at *
  generalize (⟨m.1.toArray⟩ : ByteArray) = s at *
  obtain ⟨rl, rb⟩ := r
  go_enter Try.func5, Try.ntmps5
  by_cases h50 : 50 < ms.length
  · have d : decide ((50 : Int) < (ms.length : Int)) = true := decide_eq_true (by omega)
    have d' : decide (50 < ms.length) = true := decide_eq_true h50
    have hl := HL.out (w.alloc (.cells #[.string s, .int .i64 t] 43))
    clear HP HR HL
    go_wp2_with fail
    refine hl.mono ?_
    rintro e w6 ⟨rfl, b6⟩
    have B6 := B0.trans (b6.mono B0.size)
    go_wp2_with fail
    go_ret
    exact ⟨rfl, B6⟩
  · have d : decide ((50 : Int) < (ms.length : Int)) = false := decide_eq_false (by omega)
    have d' : decide (50 < ms.length) = false := decide_eq_false h50
    have hp := HP.out (by omega) _ B0
    clear HP
    go_wp2_with fail
    refine hp.mono ?_
    rintro e w6 ⟨va, rfl, ha, b6⟩
    have B6 := B0.trans (b6.mono B0.size)
    have K6 := kb.below b6 kb.lt
    have r0 := K6.cell 0
    have r1 := K6.cell 1
    have hr := HR.out (by omega) w6 B6
    have hfa := ha.form
    clear hp b6 kb HR B0
    have HAA := Lib.hid ha
    clear ha
    obtain ⟨Aa, ca, rfl, _⟩ := hfa
    go_wp2_with fail
    refine hr.mono ?_
    rintro e w7 ⟨vb, rfl, hb, b7⟩
    have B7 := B6.trans (b7.mono B6.size)
    have hs := samem_any _ _ rl rl _ _ w7 (HAA.out.below' b7) hb
    rw [decide_eq_true rfl] at hs
    have hfb := hb.form
    obtain ⟨Ab, cb, rfl, _⟩ := hfb
    clear hr b7 HAA hb r0 r1
    go_wp2_with fail
    refine hs.mono ?_
    rintro e w8 ⟨rfl, b8⟩
    have B8 := B7.trans (b8.mono B7.size)
    have hl := HL.out w8
    clear hs b8 HL
    go_wp2_with fail
    refine hl.mono ?_
    rintro e w9 ⟨rfl, b9⟩
    have B9 := B8.trans (b9.mono B8.size)
    go_wp2_with fail
    go_ret
    exact ⟨rfl, B9⟩

theorem duePuts_law {H : Type} (enc : TypeId × Value → H) (W : World) (base : Nat)
    (v0 : Value) (d0 : DataW H) (p0 : List MemPlace) (v1 : Value) (d1 : DataW H) (p1 : List MemPlace)
    (k0 : Value.okWide Try.prog W .any base 25 v0) (k1 : Value.okWide Try.prog W .any base 43 v1)
    (h0 : DataW.Trod enc Try.prog W 0 (fun _ => true) true 25 v0 d0 p0) (h1 : DataW.Trod enc Try.prog W 0 (fun _ => true) true 43 v1 d1 p1)
    (z0 : ∀ n ∈ d0.weights Try.prog 25, n ≤ reachBytes) (z1 : ∀ n ∈ d1.weights Try.prog 43, n ≤ reachBytes) :
    Calls Try.prog 5 #[v0, v1] W fun e W' => e = .returned (.bool true) ∧ Below W.heap.size W W' := by
  obtain ⟨ms, hm, hn⟩ := open_miles_sized k0 h0 z0
  obtain ⟨m, rfl, hi, hl⟩ := open_mile k1 h1 z1
  exact puts_law _ m hi hl ms v0 W (fun b h => h) hm hn
end Go.Proofs.Ytommcdgognlfcaa
