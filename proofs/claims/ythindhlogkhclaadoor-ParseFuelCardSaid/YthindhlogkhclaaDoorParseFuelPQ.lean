/-
  ParseFuelW: The law ParseFuel over the loaded program: with as much fuel as a text costs, or more, it is read the same; with less there is not enough. No condition.
  ParseFuelP: THE STATEMENT ParseFuel of layer: proved out of the law's contract (parseFuel_law): for every input the call returns true, and the input reads as it did. No condition.
-/
import Derived.Test.YthindhlogkhclaaDoorPm32
import Derived.Test.YthindhlogkhclaaDoorPm33
import Derived.Test.YthindhlogkhclaaDoorPm03
import Derived.Test.YthindhlogkhclaaDoorCards
import Derived.Test.YthindhlogkhclaaDoorTie
import Derived.Lay
import Derived.Stop.Joined
import Derived.SevenTiedAt
import Derived.WalkKit
import Derived.ProofKit
import Derived.OpenShut
import Derived.ShutString
import Derived.ChangeOld
import Derived.Below
set_option linter.unusedVariables false
set_option maxRecDepth 100000
namespace Go.Proofs.YthindhlogkhclaaDoor
section
open Go.RowKit Go.ChangeShapes Go.WideShapes Go.Joins
theorem cost_ok {t : List UInt8} (h : (costP t).2 = 0) : (readP t 1099511627776).2.2.1 = 0 ∧ (costP t).1 = (readP t 1099511627776).2.2.2 := by
  unfold costP at h ⊢
  by_cases h0 : (readP t 1099511627776).2.2.1 = 0
  · rw [if_pos h0]; exact ⟨h0, rfl⟩
  · rw [if_neg h0] at h; exact absurd h h0
theorem fuel_same {t : List UInt8} (h : (costP t).2 = 0) {k j : Int} (hk : 0 ≤ k) (hj : 1 ≤ j) (hj2 : j ≤ (costP t).1) :
    0 ≤ (costP t).1 ∧ (costP t).1 ≤ 1099511627776 ∧ (readP t (costP t).1).2.2.1 = 0 ∧ readP t ((costP t).1 + k) = readP t (costP t).1 ∧ (readP t ((costP t).1 - j)).2.2.1 = 14 ∧ (readP t ((costP t).1 - j)).1 = [] := by
  obtain ⟨h1, h2⟩ := cost_ok h
  have hu := read_used t (n := 1099511627776) (by omega)
  rw [← h2] at hu
  have e1 : readP t (costP t).1 = readP t 1099511627776 := by rw [h2]; exact read_just (by omega) h1
  have e2 := read_less (t := t) (n := 1099511627776) (m := (costP t).1 - j) h1 (by omega) (by rw [← h2]; omega) (by omega)
  exact ⟨hu.1, hu.2, by rw [e1]; exact h1, read_more hk (by rw [e1, h1]; decide), e2.1, e2.2⟩
set_option maxHeartbeats 8000000 in
theorem parse_fuel (t : List UInt8) (ht : t.length ≤ maxLen) (k j : Int) (hki : I64 k) (hji : I64 j) (w : World) :
    Calls Tryd.prog 4 #[strV t, .int .i64 k, .int .i64 j] w fun e w' => e = .returned (.bool true) ∧ Below w.heap.size w w' := by
  have hn := num18_any
  have HL : Hid (∀ W, Calls Tryd.prog 6 #[] W fun e w' => e = .returned (.bool true) ∧ Below W.heap.size W w') := live18_any
  have hc := cost18_any t ht w
  have HR : Hid (∀ fu W, I64 fu → Calls Tryd.prog 8 #[strV t, .int .i64 fu] W (RulesAs t fu W)) := fun fu W hf => rules18_any t ht fu hf W
  unfold RulesAs at HR
  obtain ⟨z, hz⟩ : ∃ z : ByteArray, z = ⟨t.toArray⟩ := ⟨_, rfl⟩
  have hzs : (z.size : Int) = (t.length : Int) := by rw [hz]; rfl
  have hzv : strV t = .string z := by unfold strV; rw [hz]
  rw [hzv] at hc HR ⊢
  have HFS : Hid ((costP t).2 = 0 → 0 ≤ k → 1 ≤ j → j ≤ (costP t).1 → 0 ≤ (costP t).1 ∧ (costP t).1 ≤ 1099511627776 ∧ (readP t (costP t).1).2.2.1 = 0 ∧ readP t ((costP t).1 + k) = readP t (costP t).1 ∧ (readP t ((costP t).1 - j)).2.2.1 = 14 ∧ (readP t ((costP t).1 - j)).1 = []) := fun h h1 h2 h3 => fuel_same h h1 h2 h3
  generalize (costP t).2 = e0 at *
  generalize (costP t).1 = n at *
  clear hz hzv
  have B := Below.refl w.heap.size w
  by_cases h1 : 1000 < t.length
  · skip
    have d1 : decide ((1000 : Int) < (t.length : Int)) = true := decide_eq_true (by omega)
    have d2 : (1000 : Int) < (t.length : Int) := by omega
    clear HR HFS
    go_enter Tryd.func4, Tryd.ntmps4
    go_wp2_with fail
    refine hc.mono ?_
    rintro e w1 ⟨rfl, b1⟩
    replace B := B.trans (b1.mono B.size)
    clear b1 hc
    go_wp2_with (first | (go_at_call 9; refine (hn _ _).mono ?_; rintro e w4 ⟨rfl, rfl⟩) | (go_at_call 6; refine (HL.out _).mono ?_; rintro e w1 ⟨rfl, b1⟩; replace B := B.trans (b1.mono B.size); clear b1))
    go_ret
    exact ⟨rfl, B⟩
  have d1 : decide ((1000 : Int) < (t.length : Int)) = false := decide_eq_false (by omega)
  have d2 : ¬ (1000 : Int) < (t.length : Int) := by omega
  by_cases h2 : ¬ e0 = 0
  · skip
    have g1 : (e0 != 0) = true := bne_iff_ne.2 h2
    have g2 : (e0 == 0) = false := beq_eq_false_iff_ne.2 h2
    clear HR HFS
    go_enter Tryd.func4, Tryd.ntmps4
    go_wp2_with fail
    refine hc.mono ?_
    rintro e w1 ⟨rfl, b1⟩
    replace B := B.trans (b1.mono B.size)
    clear b1 hc
    go_wp2_with (first | (go_at_call 9; refine (hn _ _).mono ?_; rintro e w4 ⟨rfl, rfl⟩) | (go_at_call 6; refine (HL.out _).mono ?_; rintro e w1 ⟨rfl, b1⟩; replace B := B.trans (b1.mono B.size); clear b1))
    go_ret
    exact ⟨rfl, B⟩
  obtain rfl : e0 = 0 := Classical.not_not.1 h2
  by_cases h3 : k < 0
  · skip
    have d3 : decide (k < 0) = true := decide_eq_true h3
    clear HR HFS
    go_enter Tryd.func4, Tryd.ntmps4
    go_wp2_with fail
    refine hc.mono ?_
    rintro e w1 ⟨rfl, b1⟩
    replace B := B.trans (b1.mono B.size)
    clear b1 hc
    go_wp2_with (first | (go_at_call 9; refine (hn _ _).mono ?_; rintro e w4 ⟨rfl, rfl⟩) | (go_at_call 6; refine (HL.out _).mono ?_; rintro e w1 ⟨rfl, b1⟩; replace B := B.trans (b1.mono B.size); clear b1))
    go_ret
    exact ⟨rfl, B⟩
  have d3 : decide (k < 0) = false := decide_eq_false h3
  by_cases h4 : 1099511627776 < k
  · skip
    have d4 : decide (1099511627776 < k) = true := decide_eq_true h4
    clear HR HFS
    go_enter Tryd.func4, Tryd.ntmps4
    go_wp2_with fail
    refine hc.mono ?_
    rintro e w1 ⟨rfl, b1⟩
    replace B := B.trans (b1.mono B.size)
    clear b1 hc
    go_wp2_with (first | (go_at_call 9; refine (hn _ _).mono ?_; rintro e w4 ⟨rfl, rfl⟩) | (go_at_call 6; refine (HL.out _).mono ?_; rintro e w1 ⟨rfl, b1⟩; replace B := B.trans (b1.mono B.size); clear b1))
    go_ret
    exact ⟨rfl, B⟩
  have d4 : decide (1099511627776 < k) = false := decide_eq_false h4
  by_cases h5 : j < 1
  · skip
    have d5 : decide (j < 1) = true := decide_eq_true h5
    clear HR HFS
    go_enter Tryd.func4, Tryd.ntmps4
    go_wp2_with fail
    refine hc.mono ?_
    rintro e w1 ⟨rfl, b1⟩
    replace B := B.trans (b1.mono B.size)
    clear b1 hc
    go_wp2_with (first | (go_at_call 9; refine (hn _ _).mono ?_; rintro e w4 ⟨rfl, rfl⟩) | (go_at_call 6; refine (HL.out _).mono ?_; rintro e w1 ⟨rfl, b1⟩; replace B := B.trans (b1.mono B.size); clear b1))
    go_ret
    exact ⟨rfl, B⟩
  have d5 : decide (j < 1) = false := decide_eq_false h5
  by_cases h6 : n < j
  · skip
    have d6 : decide (n < j) = true := decide_eq_true h6
    clear HR HFS
    go_enter Tryd.func4, Tryd.ntmps4
    go_wp2_with fail
    refine hc.mono ?_
    rintro e w1 ⟨rfl, b1⟩
    replace B := B.trans (b1.mono B.size)
    clear b1 hc
    go_wp2_with (first | (go_at_call 9; refine (hn _ _).mono ?_; rintro e w4 ⟨rfl, rfl⟩) | (go_at_call 6; refine (HL.out _).mono ?_; rintro e w1 ⟨rfl, b1⟩; replace B := B.trans (b1.mono B.size); clear b1))
    go_ret
    exact ⟨rfl, B⟩
  have d6 : decide (n < j) = false := decide_eq_false h6
  obtain ⟨f1, f2, f3, f4, f5, f6⟩ := HFS.out rfl (by omega) (by omega) (by omega)
  have HR1 : Hid (∀ W, Calls Tryd.prog 8 #[.string z, .int .i64 n] W fun e w' => ∃ v, e = .returned (.tuple #[v, .int .i64 ((readP t n).2.1 : Int), .int .i64 0]) ∧ RS w' (fun b => b < w'.heap.size) 17 v (readP t n).1 ∧ Below W.heap.size W w') := fun W => by
    have := HR.out n W (by unfold I64; omega)
    rw [f3] at this; exact this
  have HR2 : Hid (∀ W, Calls Tryd.prog 8 #[.string z, .int .i64 (n + k)] W fun e w' => ∃ v, e = .returned (.tuple #[v, .int .i64 ((readP t n).2.1 : Int), .int .i64 0]) ∧ RS w' (fun b => b < w'.heap.size) 17 v (readP t n).1 ∧ Below W.heap.size W w') := fun W => by
    have := HR.out (n + k) W (by unfold I64; omega)
    rw [f4, f3] at this; exact this
  have HR3 : Hid (∀ W, Calls Tryd.prog 8 #[.string z, .int .i64 (n - j)] W fun e w' => ∃ v, e = .returned (.tuple #[v, .int .i64 ((readP t (n - j)).2.1 : Int), .int .i64 14]) ∧ RS w' (fun b => b < w'.heap.size) 17 v [] ∧ Below W.heap.size W w') := fun W => by
    have := HR.out (n - j) W (by unfold I64; omega)
    rw [f6, f5] at this; exact this
  have I1 : IntKind.i64.wrap (n + k) = n + k := by rw [IntKind.wrap_i64]; omega
  have I2 : wrap64 (n + k) = n + k := IntWalk.wrap64_in _ (by omega)
  have I3 : IntKind.i64.wrap (n - j) = n - j := by rw [IntKind.wrap_i64]; omega
  have I4 : wrap64 (n - j) = n - j := IntWalk.wrap64_in _ (by omega)
  clear HR HFS f3 f4 f5 f6 hki hji
  generalize (readP t n).1 = l at *
  generalize ((readP t n).2.1 : Int) = at1 at *
  generalize ((readP t (n - j)).2.1 : Int) = at3 at *
  have HSM : Hid (sameXL (sameR 17 17) l l = true) := (sameXL_iff (sameR_iff 17) l l).2 rfl
  go_enter Tryd.func4, Tryd.ntmps4
  go_wp2_with fail
  refine hc.mono ?_
  rintro e w1 ⟨rfl, b1⟩
  replace B := B.trans (b1.mono B.size)
  clear b1 hc
  go_wp2_with (go_at_call 9; refine (hn _ _).mono ?_; rintro e w4 ⟨rfl, rfl⟩)
  refine (HR1.out _).mono ?_
  rintro e w2 ⟨v1, rfl, hv1, b1⟩
  have B2 := B.trans (b1.mono B.size)
  obtain ⟨A1, c1, rfl, _⟩ := hv1.form
  have HV1 := Lib.hid hv1
  clear b1 HR1 hv1
  go_wp2_with fail
  refine (HR2.out _).mono ?_
  rintro e w3 ⟨v2, rfl, hv2, b2⟩
  have B3 := B2.trans (b2.mono B2.size)
  obtain ⟨A2, c2, rfl, _⟩ := hv2.form
  have HV13 := Lib.hid (HV1.out.below' b2)
  have HV2 := Lib.hid hv2
  clear b2 HR2 hv2 HV1
  go_wp2_with fail
  refine (HR3.out _).mono ?_
  rintro e w4 ⟨v3, rfl, hv3, b3⟩
  have B4 := B3.trans (b3.mono B3.size)
  obtain ⟨A3, c3, rfl, _⟩ := hv3.form
  have hsm := rsame_any _ _ 17 l l _ _ w4 (HV13.out.below' b3) (HV2.out.below' b3)
  rw [HSM.out] at hsm
  clear b3 HR3 hv3 HV13 HV2 B B2 B3 I1 I2 I3 I4
  have B := B4
  clear B4
  go_wp2_with (first | (go_at_call 9; refine (hn _ _).mono ?_; rintro e w4 ⟨rfl, rfl⟩) | (go_at_call 10; refine hsm.mono ?_; rintro e w1 ⟨rfl, b1⟩; replace B := B.trans (b1.mono B.size); clear b1) | (go_at_call 6; refine (HL.out _).mono ?_; rintro e w1 ⟨rfl, b1⟩; replace B := B.trans (b1.mono B.size); clear b1))
  go_ret
  exact ⟨rfl, B⟩
theorem parseFuel_law {H : Type} (enc : TypeId × Value → H) (W : World) (base : Nat)
    (v0 : Value) (d0 : DataW H) (p0 : List MemPlace) (v1 : Value) (d1 : DataW H) (p1 : List MemPlace) (v2 : Value) (d2 : DataW H) (p2 : List MemPlace)
    (k0 : Value.okWide Tryd.prog W .any base 9 v0) (k1 : Value.okWide Tryd.prog W .any base 3 v1) (k2 : Value.okWide Tryd.prog W .any base 3 v2)
    (h0 : DataW.Trod enc Tryd.prog W 0 (fun _ => true) true 9 v0 d0 p0) (h1 : DataW.Trod enc Tryd.prog W 0 (fun _ => true) true 3 v1 d1 p1) (h2 : DataW.Trod enc Tryd.prog W 0 (fun _ => true) true 3 v2 d2 p2) :
    Calls Tryd.prog 4 #[v0, v1, v2] W fun e W' => e = .returned (.bool true) ∧ Below W.heap.size W W' := by
  obtain ⟨t, rfl, ht⟩ := open_str k0 h0
  obtain ⟨k, rfl, rfl, rfl, wk⟩ := open_int Tryd.underlying3 k1 h1
  obtain ⟨j, rfl, rfl, rfl, wj⟩ := open_int Tryd.underlying3 k2 h2
  have hk : I64 k := by simpa [I64, Lit.wf, IntKind.min, IntKind.max, IntKind.signed, IntKind.bits] using wk
  have hj : I64 j := by simpa [I64, Lit.wf, IntKind.min, IntKind.max, IntKind.signed, IntKind.bits] using wj
  exact parse_fuel t ht k j hk hj W
end
end Go.Proofs.YthindhlogkhclaaDoor
section
namespace Go.Proofs.YthindhlogkhclaaDoor.parseFuel
open Go.ChangeShapes Go.WideShapes Go.ChangeAt Go.RowKit
theorem own : ownKnob Tryd.prog.godebug = none := by kernel_rfl
theorem laidOut : laidOutB Tryd.prog = true := by kernel_rfl
set_option maxRecDepth 100000 in
theorem lifted (os : Os) (started : os.Started) (H : Type) (enc : TypeId × Value → H) :
    ReturnsInHanded {} Tryd.checked os 4 .any (fun w args => (Rows.parseFuelSpec.pre enc Tryd.prog Tryd.f4 [] false w args ∧ laidMetH Tryd.prog Rows.parseFuelRow.laid w) ∧ sizedMet enc Tryd.prog Tryd.f4 (OpenSpec.ofChange Rows.parseFuelSpec) false w args)
      (Rows.parseFuelSpec.post enc Tryd.prog Tryd.f4 false true false false) := by
  refine returnsInHanded_of_change_and (C := Tryd.checked) (X := fun w _ => laidMetH Tryd.prog Rows.parseFuelRow.laid w) (fun _ _ _ hh h => h.of_heap hh) own started (by kernel_rfl) Tryd.func4
    (ChangeSpec.witness_shaped (enc := enc) (C := Tryd.checked) (os := os) (X := fun w _ => laidMetH Tryd.prog Rows.parseFuelRow.laid w) false (World.laidAll Tryd.prog os Rows.parseFuelRow.laid) #[.string ByteArray.empty, .int .i64 0, .int .i64 0] 8 (World.laidAll_os _ _ _)
      (World.shaped_of_ZipB (by kernel_rfl) (by kernel_rfl)) (by kernel_rfl) (by kernel_rfl) (by kernel_rfl)
      (by rw [MakeChecks.laidMetH_plain _ _ _ (by kernel_rfl)]; exact laidMet_laidAll _ (by kernel_rfl) (by kernel_rfl))) ?_
  intro W base args ds gs before hval0 hW _ _ hL _
  have hval : ∀ (j : Nat) t v, Tryd.f4.params[j]? = some t → args[j]? = some v → Value.okWide Tryd.prog W .any base t v := hval0
  have hW' := hW
  obtain ⟨p, q, hA0, hV, rfl, hfz, hnd⟩ := hW
  have hA : DataW.TrodAll enc Tryd.prog W 0 (fun _ => true) true Tryd.f4.params.toList args.toList ds p := hA0
  rw [Tryd.params4] at hA hval
  obtain ⟨v0, vs0, d0, ds0, p0, q0, hargs, rfl, rfl, h0, r0⟩ := trodAll_cons hA
  obtain ⟨v1, vs1, d1, ds1, p1, q1, rfl, rfl, rfl, h1, r1⟩ := trodAll_cons r0
  obtain ⟨v2, vs2, d2, ds2, p2, q2, rfl, rfl, rfl, h2, r2⟩ := trodAll_cons r1
  obtain ⟨rfl, rfl, rfl⟩ := trodAll_nil r2
  obtain rfl : args = #[v0, v1, v2] := by cases args; simp_all
  obtain ⟨rfl, rfl⟩ := trodVars_none hV
  have lt0 : ∀ x ∈ p0, x.block < W.heap.size := by obtain ⟨m, hm⟩ := h0; exact DataW.trod_lt m _ _ _ hm
  have lt1 : ∀ x ∈ p1, x.block < W.heap.size := by obtain ⟨m, hm⟩ := h1; exact DataW.trod_lt m _ _ _ hm
  have lt2 : ∀ x ∈ p2, x.block < W.heap.size := by obtain ⟨m, hm⟩ := h2; exact DataW.trod_lt m _ _ _ hm
  refine (parseFuel_law enc W base v0 d0 p0 v1 d1 p1 v2 d2 p2 (hval 0 _ v0 rfl rfl) (hval 1 _ v1 rfl rfl) (hval 2 _ v2 rfl rfl) h0 h1 h2).mono fun e W' ⟨he, bel⟩ => ?_
  subst he
  exact ⟨_, rfl, _, _, _, [], _, [], hW', trodAll_mk1 (shut_bool Tryd.underlying4 _), (trodAll_cons_mk (Below.trod laidOut (by kernel_rfl) (of_decide_eq_true (by kernel_rfl)) h0 bel lt0) (trodAll_cons_mk (Below.trod laidOut (by kernel_rfl) (of_decide_eq_true (by kernel_rfl)) h1 bel lt1) (trodAll_cons_mk (Below.trod laidOut (by kernel_rfl) (of_decide_eq_true (by kernel_rfl)) h2 bel lt2) trodAll_mk0))), rfl, bel.frame _, fun h => by cases h⟩
theorem over : Rows.parseFuelRow.holds Tryd.pinned (OpenSpec.ofChange Rows.parseFuelSpec) :=
  OpenClaim.holds_of_wide 4 Tryd.f4 rfl rfl rfl rfl rfl rfl rfl ⟨rfl, rfl, rfl, rfl, rfl⟩ rfl rfl rfl rfl rfl (by kernel_rfl) Tryd.func4 (by kernel_rfl)
    (of_decide_eq_true (by kernel_rfl)) (by unfold Func.isWrapper; first | (rw [if_pos (by decide +kernel)]; kernel_rfl) | (rw [if_neg (by decide +kernel)]; exact ⟨rfl, rfl⟩))
    (fun os started H enc _ => lifted os started H enc)
theorem proved : Rows.ParseFuelSaid := over
theorem row_tie : Rows.parseFuelRow.laidByTextAt .later Tryd.pinned [.data, .pinned] true := parseFuel_row_tie
theorem card : Rows.ParseFuelCardSaid :=
  Claim7.holds_tied_plain_at .later [] [.data, .pinned] true Rows.parseFuelCard.stood.harness false
    over (fun _ h => by cases h) (by kernel_rfl) (fun _ h => by cases h) row_tie rfl ⟨rfl, rfl⟩ (by kernel_rfl) rfl
    (fun f fn hf hfn => by
      obtain rfl : f = 4 := Option.some.inj ((show Tryd.prog.funcNamed Rows.parseFuelRow.func = some 4 by kernel_rfl).symm.trans hf) |>.symm
      obtain rfl : fn = Tryd.f4 := (Option.some.inj (Tryd.func4.symm.trans hfn)).symm
      exact ⟨by kernel_rfl, fun j t ht => by
        rw [Tryd.params4] at ht
        have hm : t ∈ [9, 3, 3] := by simpa using Array.mem_of_getElem? ht
        have hall : ([9, 3, 3].all fun u => !Tryd.prog.wantsStandIn u) = true := by kernel_rfl
        exact (show Tryd.prog.wantsStandIn t = false by simpa using List.all_eq_true.1 hall t hm)⟩)
    (by kernel_rfl)
end Go.Proofs.YthindhlogkhclaaDoor.parseFuel
end
