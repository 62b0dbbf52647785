/-
  ParseRulesW: The law ParseRules over the loaded program: rules are read as the document reads them, and cost what they cost there. No condition.
-/
import Derived.Test.YthindhlogkhclaaGreatDoorPz49
import Derived.Test.YthindhlogkhclaaGreatDoorPz50
import Derived.Test.YthindhlogkhclaaGreatDoorPz06
set_option linter.unusedVariables false
set_option maxRecDepth 100000
namespace Go.Proofs.YthindhlogkhclaaGreatDoor
section
open Go.RowKit Go.ChangeShapes Go.WideShapes Go.Joins
set_option maxHeartbeats 8000000 in
theorem parse_rules (t : List UInt8) (ht : t.length ≤ maxLen) (fu : Int) (hfu : I64 fu) (w : World) :
    Calls Tryz.prog 3 #[strV t, .int .i64 fu] w fun e w' => e = .returned (.bool true) ∧ Below w.heap.size w w' := by
  have hn := num18_any
  have HL : Hid (∀ W, Calls Tryz.prog 4 #[] W fun e w' => e = .returned (.bool true) ∧ Below W.heap.size W w') := live18_any
  have HC1 : Hid (∀ W, Calls Tryz.prog 7 #[strV t] W fun e w' => e = .returned (.tuple #[.int .i64 (costP t).1, .int .i64 (costP t).2]) ∧ Below W.heap.size W w') := fun W => cost18_any t ht W
  have HC2 : Hid (∀ W, Calls Tryz.prog 8 #[strV t] W fun e w' => e = .returned (.tuple #[.int .i64 (costP t).1, .int .i64 (costP t).2]) ∧ Below W.heap.size W w') := fun W => rcost_any t ht W
  have HR1 : Hid (∀ W, Calls Tryz.prog 5 #[strV t, .int .i64 fu] W (RulesAs t fu W)) := fun W => rules18_any t ht fu hfu W
  have HR2 : Hid (∀ W, Calls Tryz.prog 6 #[strV t, .int .i64 fu] W (RulesAs t fu W)) := fun W => rrules_any t ht fu hfu W
  unfold RulesAs at HR1 HR2
  obtain ⟨z, hz⟩ : ∃ z : ByteArray, z = ⟨t.toArray⟩ := ⟨_, rfl⟩
  have hzs : (z.size : Int) = (t.length : Int) := by rw [hz]; rfl
  have hzv : strV t = .string z := by unfold strV; rw [hz]
  rw [hzv] at HC1 HC2 HR1 HR2 ⊢
  generalize (costP t).2 = ce at *
  generalize (costP t).1 = cn at *
  generalize ((readP t fu).2.2.1 : Int) = re at *
  generalize ((readP t fu).2.1 : Int) = rn at *
  generalize (readP t fu).1 = l at *
  clear hz hzv
  have B := Below.refl w.heap.size w
  by_cases h1 : 1000 < t.length
  · skip
    have d1 : decide ((1000 : Int) < (t.length : Int)) = true := decide_eq_true (by omega)
    have d2 : (1000 : Int) < (t.length : Int) := by omega
    clear HR1 HR2 HC1 HC2
    go_enter Tryz.func3, Tryz.ntmps3
    go_wp2_with (go_at_call 4; refine (HL.out _).mono ?_; rintro e w1 ⟨rfl, b1⟩; replace B := B.trans (b1.mono B.size); clear b1)
    go_ret
    exact ⟨rfl, B⟩
  have d1 : decide ((1000 : Int) < (t.length : Int)) = false := decide_eq_false (by omega)
  have d2 : ¬ (1000 : Int) < (t.length : Int) := by omega
  have HSM : Hid (sameXL (sameR 17 17) l l = true) := (sameXL_iff (sameR_iff 17) l l).2 rfl
  go_enter Tryz.func3, Tryz.ntmps3
  go_wp2_with fail
  refine (HR1.out _).mono ?_
  rintro e w2 ⟨v1, rfl, hv1, b1⟩
  have B2 := B.trans (b1.mono B.size)
  obtain ⟨A1, c1, rfl, _⟩ := hv1.form
  have HV1 := Lib.hid hv1
  clear b1 HR1 hv1
  go_wp2_with fail
  refine (HR2.out _).mono ?_
  rintro e w3 ⟨v2, rfl, hv2, b2⟩
  have B3 := B2.trans (b2.mono B2.size)
  obtain ⟨A2, c2, rfl, _⟩ := hv2.form
  have HV13 := Lib.hid (HV1.out.below' b2)
  have HV2 := Lib.hid hv2
  clear b2 HR2 hv2 HV1
  go_wp2_with fail
  refine (HC1.out _).mono ?_
  rintro e w4 ⟨rfl, b3⟩
  have B4 := B3.trans (b3.mono B3.size)
  have HV14 := Lib.hid (HV13.out.below' b3)
  have HV24 := Lib.hid (HV2.out.below' b3)
  clear b3 HC1 HV13 HV2
  go_wp2_with fail
  refine (HC2.out _).mono ?_
  rintro e w5 ⟨rfl, b4⟩
  have B5 := B4.trans (b4.mono B4.size)
  have hsm := rsame_any _ _ 17 l l _ _ w5 (HV14.out.below' b4) (HV24.out.below' b4)
  rw [HSM.out] at hsm
  clear b4 HC2 HV14 HV24 B B2 B3 B4
  have B := B5
  clear B5
  go_wp2_with (first | (go_at_call 10; refine (hn _ _).mono ?_; rintro e w9 ⟨rfl, rfl⟩) | (go_at_call 9; refine hsm.mono ?_; rintro e w1 ⟨rfl, b1⟩; replace B := B.trans (b1.mono B.size); clear b1) | (go_at_call 4; refine (HL.out _).mono ?_; rintro e w1 ⟨rfl, b1⟩; replace B := B.trans (b1.mono B.size); clear b1))
  go_ret
  exact ⟨rfl, B⟩
theorem parseRules_law {H : Type} (enc : TypeId × Value → H) (W : World) (base : Nat)
    (v0 : Value) (d0 : DataW H) (p0 : List MemPlace) (v1 : Value) (d1 : DataW H) (p1 : List MemPlace)
    (k0 : Value.okWide Tryz.prog W .any base 9 v0) (k1 : Value.okWide Tryz.prog W .any base 3 v1)
    (h0 : DataW.Trod enc Tryz.prog W 0 (fun _ => true) true 9 v0 d0 p0) (h1 : DataW.Trod enc Tryz.prog W 0 (fun _ => true) true 3 v1 d1 p1) :
    Calls Tryz.prog 3 #[v0, v1] W fun e W' => e = .returned (.bool true) ∧ Below W.heap.size W W' := by
  obtain ⟨t, rfl, ht⟩ := open_str k0 h0
  obtain ⟨k, rfl, rfl, rfl, wk⟩ := open_int Tryz.underlying3 k1 h1
  have hk : I64 k := by simpa [I64, Lit.wf, IntKind.min, IntKind.max, IntKind.signed, IntKind.bits] using wk
  exact parse_rules t ht k hk W
end
end Go.Proofs.YthindhlogkhclaaGreatDoor
