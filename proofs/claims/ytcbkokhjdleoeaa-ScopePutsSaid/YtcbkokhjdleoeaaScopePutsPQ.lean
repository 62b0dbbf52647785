/-
  ScopePutsW: The law ScopePuts over the loaded program: which scopes may be, and their bytes. No condition.
  ScopePutsP: THE STATEMENT ScopePuts of layer: proved out of the law's contract (scopePuts_law): for every input the call returns true, and the input reads as it did. No condition.
-/
import Derived.Test.YtcbkokhjdleoeaaSz24
import Derived.Test.YtcbkokhjdleoeaaRows
import Derived.WalkKit
import Derived.ProofKit
import Derived.OpenShut
import Derived.ShutString
import Derived.ChangeOld
import Derived.Below
set_option linter.unusedVariables false
set_option maxRecDepth 100000
namespace Go.Proofs.Ytcbkokhjdleoeaa
section
open Go.RowKit Go.ChangeShapes Go.WideShapes Go.Joins
theorem zput_num {f : Nat} (t : Sc f) : (putSc f t).2 = (if mayS f t = true then 0 else 1) ∧ I64 (putSc f t).2 := by
  unfold putSc I64
  split <;> simp
set_option maxHeartbeats 4000000 in
theorem scopePuts_main (f : Nat) (t : Sc f) (v : Value) (w : World) (h : ZV w (fun b => b < w.heap.size) f v t) : Calls Try.prog 3 #[v] w (Yes20 w) := by
  obtain ⟨i0, l1, i2, i3, X4, n4, z4, rfl⟩ := h.form
  have h1 := h.alloc (.cells #[.int .i64 i0, strV l1, .int .i64 i2, .int .i64 i3, .slice X4 n4 z4] 24)
  have B1 := (Below.refl w.heap.size w).alloc (Nat.le_refl _) (.cells #[.int .i64 i0, strV l1, .int .i64 i2, .int .i64 i3, .slice X4 n4 z4] 24)
  have kb := KB.new w 24 #[.int .i64 i0, strV l1, .int .i64 i2, .int .i64 i3, .slice X4 n4 z4]
  have hs := zsmall_any _ f t _ _ h1
  obtain ⟨hq, hI⟩ := zput_num t
  have HP1 : Hid (∀ W, Below w.heap.size w W → Calls Try.prog 10 #[.agg #[.int .i64 i0, strV l1, .int .i64 i2, .int .i64 i3, .slice X4 n4 z4]] W (PutZ W (putSc f t))) := fun W hb => zpput_any _ f t _ W (fun b hb' => Nat.lt_of_lt_of_le hb' hb.size) (h.below' hb)
  have HP2 : Hid (∀ W, Below w.heap.size w W → Calls Try.prog 11 #[.agg #[.int .i64 i0, strV l1, .int .i64 i2, .int .i64 i3, .slice X4 n4 z4]] W (PutZ W (putSc f t))) := fun W hb => zrput_any _ f t _ W (h.below' hb)
  have HCK : Hid (∀ W, Below w.heap.size w W → Calls Try.prog 14 #[.agg #[.int .i64 i0, strV l1, .int .i64 i2, .int .i64 i3, .slice X4 n4 z4]] W fun e w' => e = .returned (.int .i64 (putSc f t).2) ∧ Below W.heap.size W w') := fun W hb => by
    rw [hq]
    exact zpcheck_any _ f t _ W (fun b hb' => Nat.lt_of_lt_of_le hb' hb.size) (h.below' hb)
  clear h h1 hq
  generalize putSc f t = r at *
  obtain ⟨lb, c⟩ := r
  dsimp only at hI HCK
  unfold strV at *
  generalize (⟨l1.toArray⟩ : ByteArray) = s at *
  go_enter Try.func3, Try.ntmps3
  go_wp2_with fail
  refine hs.mono ?_
  rintro e w1 ⟨b, rfl, _, b1⟩
  have kb2 := kb.below b1 kb.lt
  have B2 := B1.trans (b1.mono B1.size)
  clear hs b1 kb B1
  cases b with
  | false =>
    clear HP1 HP2 HCK
    go_wp2_with fail
    refine (live20_any _).mono ?_
    rintro e w2 ⟨rfl, b2⟩
    have B3 := B2.trans (b2.mono B2.size)
    go_wp2_with fail
    go_ret
    exact ⟨rfl, B3⟩
  | true =>
    have q0 := kb2.cell 0
    have q1 := kb2.cell 1
    have q2 := kb2.cell 2
    have q3 := kb2.cell 3
    have q4 := kb2.cell 4
    simp only [List.getElem?_toArray, List.getElem?_cons_zero, List.getElem?_cons_succ] at q0 q1 q2 q3 q4
    go_wp2_with fail
    refine (HP1.out _ B2).mono ?_
    rintro e w2 ⟨va, rfl, oa, b2⟩
    have kb3 := kb2.below b2 kb2.lt
    have B3 := B2.trans (b2.mono B2.size)
    have xa := own_BS oa
    obtain ⟨Aa, ca, rfl, _⟩ := xa.form
    clear HP1 b2 kb2 B2 oa q0 q1 q2 q3 q4
    have q0 := kb3.cell 0
    have q1 := kb3.cell 1
    have q2 := kb3.cell 2
    have q3 := kb3.cell 3
    have q4 := kb3.cell 4
    simp only [List.getElem?_toArray, List.getElem?_cons_zero, List.getElem?_cons_succ] at q0 q1 q2 q3 q4
    go_wp2_with fail
    refine (HP2.out _ B3).mono ?_
    rintro e w3 ⟨vb, rfl, ob, b3⟩
    have kb4 := kb3.below b3 kb3.lt
    have B4 := B3.trans (b3.mono B3.size)
    have xb := own_BS ob
    have xa2 := xa.below' b3
    obtain ⟨Ab, cb, rfl, _⟩ := xb.form
    clear HP2 b3 kb3 B3 ob xa q0 q1 q2 q3 q4
    go_wp2_with fail
    refine (same_to _ _ _ _ _ _ xa2 xb).mono ?_
    rintro e w4 ⟨rfl, b4⟩
    have kb5 := kb4.below b4 kb4.lt
    have B5 := B4.trans (b4.mono B4.size)
    clear xa2 xb b4 kb4 B4
    go_wp2_with fail
    refine (zlnum_any c hI _).mono ?_
    rintro e w5 ⟨rfl, rfl⟩
    have q0 := kb5.cell 0
    have q1 := kb5.cell 1
    have q2 := kb5.cell 2
    have q3 := kb5.cell 3
    have q4 := kb5.cell 4
    simp only [List.getElem?_toArray, List.getElem?_cons_zero, List.getElem?_cons_succ] at q0 q1 q2 q3 q4
    go_wp2_with fail
    refine (HCK.out _ B5).mono ?_
    rintro e w6 ⟨rfl, b6⟩
    have B6 := B5.trans (b6.mono B5.size)
    clear HCK b6 B5 kb5 q0 q1 q2 q3 q4
    go_wp2_with fail
    refine (zlnum_any c hI _).mono ?_
    rintro e w7 ⟨rfl, rfl⟩
    go_wp2_with fail
    refine (live20_any _).mono ?_
    rintro e w8 ⟨rfl, b8⟩
    have B8 := B6.trans (b8.mono B6.size)
    go_wp2_with fail
    go_ret
    exact ⟨rfl, B8⟩
theorem scopePuts_law {H : Type} (enc : TypeId × Value → H) (W : World) (base : Nat) (v0 : Value) (d0 : DataW H) (p0 : List MemPlace)
    (k0 : Value.okWide Try.prog W .any base 24 v0) (h0 : DataW.Trod enc Try.prog W 0 (fun _ => true) true 24 v0 d0 p0) :
    Calls Try.prog 3 #[v0] W fun e W' => e = .returned (.bool true) ∧ Below W.heap.size W W' := by
  obtain ⟨n, hn⟩ := open_scope k0 h0
  obtain ⟨t, ht⟩ := hn n (Nat.le_refl _)
  exact scopePuts_main n t v0 W ht
end
end Go.Proofs.Ytcbkokhjdleoeaa
section
namespace Go.Proofs.Ytcbkokhjdleoeaa.scopePuts
open Go.ChangeShapes Go.WideShapes Go.ChangeAt Go.RowKit
theorem own : ownKnob Try.prog.godebug = none := by kernel_rfl
theorem laidOut : laidOutB Try.prog = true := by kernel_rfl
set_option maxRecDepth 100000 in
theorem lifted (os : Os) (started : os.Started) (H : Type) (enc : TypeId × Value → H) :
    ReturnsInHanded {} Try.checked os 3 .any (Rows.scopePutsSpec.pre6 enc Try.prog Try.f3 Rows.scopePutsRow.domain false) (Rows.scopePutsSpec.post enc Try.prog Try.f3 false true false false) := by
  refine returnsInHanded_of_change (C := Try.checked) own started (by kernel_rfl) Try.func3
    (ChangeSpec.witness6 (enc := enc) (C := Try.checked) false ⟨#[], #[.agg #[.int .i64 0, .string ByteArray.empty, .int .i64 0, .int .i64 0, .slice none 0 0]], []⟩ 8 (by kernel_rfl) (by kernel_rfl) (by kernel_rfl) (by kernel_rfl)) ?_
  intro W base args ds gs before hval0 hW hcnd _
  have hval : ∀ (j : Nat) t v, Try.f3.params[j]? = some t → args[j]? = some v → Value.okWide Try.prog W .any base t v := hval0
  have hW' := hW
  obtain ⟨p, q, hA0, hV, rfl, hfz, hnd⟩ := hW
  have hA : DataW.TrodAll enc Try.prog W 0 (fun _ => true) true Try.f3.params.toList args.toList ds p := hA0
  rw [Try.params3] at hA hval
  obtain ⟨v0, vs0, d0, ds0, p0, q0, hargs, rfl, rfl, h0, r0⟩ := trodAll_cons hA
  obtain ⟨rfl, rfl, rfl⟩ := trodAll_nil r0
  obtain rfl : args = #[v0] := by cases args; simp_all
  obtain ⟨rfl, rfl⟩ := trodVars_none hV
  have lt0 : ∀ x ∈ p0, x.block < W.heap.size := by obtain ⟨m, hm⟩ := h0; exact DataW.trod_lt m _ _ _ hm
  refine (scopePuts_law enc W base v0 d0 p0 (hval 0 _ v0 rfl rfl) h0).mono fun e W' ⟨he, bel⟩ => ?_
  subst he
  exact ⟨_, rfl, _, _, _, [], _, [], hW', trodAll_mk1 (shut_bool Try.underlying4 _), (trodAll_cons_mk (Below.trod laidOut (by kernel_rfl) (of_decide_eq_true (by kernel_rfl)) h0 bel lt0) trodAll_mk0), rfl, bel.frame _, fun h => by cases h⟩
theorem over : Rows.scopePutsRow.holds Try.pinned (OpenSpec.ofChange Rows.scopePutsSpec) :=
  OpenClaim.holds_of_wide 3 Try.f3 rfl rfl rfl rfl rfl rfl rfl ⟨rfl, rfl, rfl, rfl, rfl⟩ rfl rfl rfl rfl rfl (by kernel_rfl) Try.func3 (by kernel_rfl)
    (of_decide_eq_true (by kernel_rfl)) (by unfold Func.isWrapper; first | (rw [if_pos (by decide +kernel)]; kernel_rfl) | (rw [if_neg (by decide +kernel)]; exact ⟨rfl, rfl⟩))
    (fun os started H enc _ => lifted os started H enc)
theorem proved : Rows.ScopePutsSaid := over
end Go.Proofs.Ytcbkokhjdleoeaa.scopePuts
end
