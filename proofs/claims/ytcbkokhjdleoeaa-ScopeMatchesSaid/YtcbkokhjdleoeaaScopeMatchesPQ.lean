/-
  ScopeMatchesW: The law ScopeMatches over the loaded program: which records every scope matches. No condition.
  ScopeMatchesP: THE STATEMENT ScopeMatches of layer: proved out of the law's contract (scopeMatches_law): for every input the call returns true, and the input reads as it did. No condition.
-/
import Derived.Test.YtcbkokhjdleoeaaSz24
import Derived.Test.YtcbkokhjdleoeaaSz26
import Derived.Test.YtcbkokhjdleoeaaSz03
import Derived.Deep.RegionHeld3
import Derived.Test.YtcbkokhjdleoeaaRows
import Derived.WalkKit
import Derived.ProofKit
import Derived.OpenShut
import Derived.ShutString
import Derived.ChangeOld
import Derived.Below
set_option linter.unusedVariables false
set_option maxRecDepth 100000
namespace Go.Proofs.Ytcbkokhjdleoeaa
section
open Go.RowKit Go.ChangeShapes Go.WideShapes Go.Joins
set_option maxHeartbeats 4000000 in
theorem scopeMatches_main (f : Nat) (t : Sc f) (rc : Rc) (v vr : Value) (w : World) (h : ZV w (fun b => b < w.heap.size) f v t) (hr : RcV vr rc) : Calls Try.prog 5 #[v, vr] w (Yes20 w) := by
  obtain ⟨i0, l1, i2, i3, X4, n4, z4, rfl⟩ := h.form
  obtain ⟨id, st, rfl⟩ := hr
  have hrv : RcV (.agg #[strV id, strV rc.cse, strV rc.sub, strV rc.cls, .int .i64 rc.tick, .int .i64 st]) rc := ⟨id, st, rfl⟩
  obtain ⟨kx, ky, B1⟩ := ztwo_boxes w #[.int .i64 i0, strV l1, .int .i64 i2, .int .i64 i3, .slice X4 n4 z4] #[strV id, strV rc.cse, strV rc.sub, strV rc.cls, .int .i64 rc.tick, .int .i64 st] 24 43
  have hs := zsmall_any _ f t _ _ (h.below' B1)
  have HP1 : Hid (∀ W, Below w.heap.size w W → Calls Try.prog 19 #[.agg #[.int .i64 i0, strV l1, .int .i64 i2, .int .i64 i3, .slice X4 n4 z4], .agg #[strV id, strV rc.cse, strV rc.sub, strV rc.cls, .int .i64 rc.tick, .int .i64 st]] W fun e w' => e = .returned (.bool (matchS rc f t)) ∧ Below W.heap.size W w') := fun W hb => zpmatch_any _ rc _ hrv f t _ W (h.below' hb)
  have HP2 : Hid (∀ W, Below w.heap.size w W → Calls Try.prog 20 #[.agg #[.int .i64 i0, strV l1, .int .i64 i2, .int .i64 i3, .slice X4 n4 z4], .agg #[strV id, strV rc.cse, strV rc.sub, strV rc.cls, .int .i64 rc.tick, .int .i64 st]] W fun e w' => e = .returned (.bool (matchS rc f t)) ∧ Below W.heap.size W w') := fun W hb => zrmatch_any _ rc _ hrv f t _ W (h.below' hb)
  clear h hrv
  generalize matchS rc f t = m at *
  generalize rc.tick = tick at *
  unfold strV at *
  generalize (⟨l1.toArray⟩ : ByteArray) = s at *
  generalize (⟨id.toArray⟩ : ByteArray) = s0 at *
  generalize (⟨rc.cse.toArray⟩ : ByteArray) = s1 at *
  generalize (⟨rc.sub.toArray⟩ : ByteArray) = s2 at *
  generalize (⟨rc.cls.toArray⟩ : ByteArray) = s3 at *
  clear rc
  go_enter Try.func5, Try.ntmps5
  go_wp2_with fail
  refine hs.mono ?_
  rintro e w1 ⟨b, rfl, _, b1⟩
  have kx2 := kx.below b1 kx.lt
  have ky2 := ky.below b1 ky.lt
  have B2 := B1.trans (b1.mono B1.size)
  clear hs b1 kx ky B1
  cases b with
  | false =>
    clear HP1 HP2
    go_wp2_with fail
    refine (live20_any _).mono ?_
    rintro e w2 ⟨rfl, b2⟩
    have B3 := B2.trans (b2.mono B2.size)
    go_wp2_with fail
    go_ret
    exact ⟨rfl, B3⟩
  | true =>
    have kx3 : KB w1.drew w.heap.size 24 #[.int .i64 i0, .string s, .int .i64 i2, .int .i64 i3, .slice X4 n4 z4] := kx2
    have ky3 : KB w1.drew (w.heap.size + 1) 43 #[.string s0, .string s1, .string s2, .string s3, .int .i64 tick, .int .i64 st] := ky2
    have B3 : Below w.heap.size w w1.drew := Below_drawn B2 1
    clear kx2 ky2 B2
    go_wp2_with fail
    rename_i KK hKK
    have HKK := Lib.hid hKK
    clear hKK
    have EQ : (m == m) = true := by simp
    refine wp_region_held_drew (S := (fun W => W.cell? ⟨w.heap.size, 0, none⟩ = some (.int .i64 i0) ∧ W.cell? ⟨w.heap.size, 1, none⟩ = some (.string s) ∧ W.cell? ⟨w.heap.size, 2, none⟩ = some (.int .i64 i2) ∧ W.cell? ⟨w.heap.size, 3, none⟩ = some (.int .i64 i3) ∧ W.cell? ⟨w.heap.size, 4, none⟩ = some (.slice X4 n4 z4) ∧ W.cell? ⟨w.heap.size + 1, 0, none⟩ = some (.string s0) ∧ W.cell? ⟨w.heap.size + 1, 1, none⟩ = some (.string s1) ∧ W.cell? ⟨w.heap.size + 1, 2, none⟩ = some (.string s2) ∧ W.cell? ⟨w.heap.size + 1, 3, none⟩ = some (.string s3) ∧ W.cell? ⟨w.heap.size + 1, 4, none⟩ = some (.int .i64 tick) ∧ W.cell? ⟨w.heap.size + 1, 5, none⟩ = some (.int .i64 st))) (by kernel_rfl) ⟨kx3.cell 0, kx3.cell 1, kx3.cell 2, kx3.cell 3, kx3.cell 4, ky3.cell 0, ky3.cell 1, ky3.cell 2, ky3.cell 3, ky3.cell 4, ky3.cell 5⟩ (fun hHeld => ?_)
    generalize w1.drew = wd at *
    refine hyY (some 9) 0 rfl hHeld ?_; go_frame
    refine hyY (some 10) 1 rfl hHeld ?_; go_frame
    refine hyY (some 12) 3 rfl hHeld ?_; go_frame
    refine hyY (some 13) 4 rfl hHeld ?_; go_frame
    refine hyO (some 11) 2 rfl (fun K hK => ?_)
    go_simp
    go_at_call 19
    refine (HP1.out _ B3).mono ?_
    rintro e w2 ⟨rfl, b2⟩
    replace kx3 := kx3.below b2 kx3.lt
    replace ky3 := ky3.below b2 ky3.lt
    replace B3 := B3.trans (b2.mono B3.size)
    clear b2
    go_wp2_with fail
    refine hK.out _ _ ?_ (fun hH2 => ?_)
    · exact ⟨kx3.cell 0, kx3.cell 1, kx3.cell 2, kx3.cell 3, kx3.cell 4, ky3.cell 0, ky3.cell 1, ky3.cell 2, ky3.cell 3, ky3.cell 4, ky3.cell 5⟩
    clear hHeld hK K; have hHeld := hH2; clear hH2; try go_frame
    refine hyO (some 14) 5 rfl (fun K hK => ?_)
    go_simp
    go_at_call 20
    refine (HP2.out _ B3).mono ?_
    rintro e w3 ⟨rfl, b3⟩
    replace kx3 := kx3.below b3 kx3.lt
    replace ky3 := ky3.below b3 ky3.lt
    replace B3 := B3.trans (b3.mono B3.size)
    clear b3
    go_wp2_with fail
    refine hK.out _ _ ?_ (fun hH2 => ?_)
    · exact ⟨kx3.cell 0, kx3.cell 1, kx3.cell 2, kx3.cell 3, kx3.cell 4, ky3.cell 0, ky3.cell 1, ky3.cell 2, ky3.cell 3, ky3.cell 4, ky3.cell 5⟩
    clear hHeld hK K; have hHeld := hH2; clear hH2; try go_frame
    refine hyY (some 15) 6 rfl hHeld ?_; go_frame
    refine hyY (some 16) 7 rfl hHeld ?_; go_frame
    refine hyO (some 17) 8 rfl (fun K hK => ?_)
    go_simp
    go_at_call 9
    refine (live20_any _).mono ?_
    rintro e w4 ⟨rfl, b4⟩
    replace kx3 := kx3.below b4 kx3.lt
    replace ky3 := ky3.below b4 ky3.lt
    replace B3 := B3.trans (b4.mono B3.size)
    clear b4
    go_wp2_with fail
    refine hK.out _ _ ?_ (fun hH2 => ?_)
    · exact ⟨kx3.cell 0, kx3.cell 1, kx3.cell 2, kx3.cell 3, kx3.cell 4, ky3.cell 0, ky3.cell 1, ky3.cell 2, ky3.cell 3, ky3.cell 4, ky3.cell 5⟩
    clear hHeld hK K; have hHeld := hH2; clear hH2; try go_frame
    refine hyY (some 18) 9 rfl hHeld ?_; go_frame
    refine hyY (some 4) 10 rfl hHeld ?_; go_frame
    refine wpAnyH_done (by kernel_rfl) ?_ _
    have hKK := HKK.out
    go_wp2_with fail
    go_ret
    exact ⟨rfl, B3⟩
theorem scopeMatches_law {H : Type} (enc : TypeId × Value → H) (W : World) (base : Nat) (v0 : Value) (d0 : DataW H) (p0 : List MemPlace) (v1 : Value) (d1 : DataW H) (p1 : List MemPlace)
    (k0 : Value.okWide Try.prog W .any base 24 v0) (k1 : Value.okWide Try.prog W .any base 43 v1)
    (h0 : DataW.Trod enc Try.prog W 0 (fun _ => true) true 24 v0 d0 p0) (h1 : DataW.Trod enc Try.prog W 0 (fun _ => true) true 43 v1 d1 p1) :
    Calls Try.prog 5 #[v0, v1] W fun e W' => e = .returned (.bool true) ∧ Below W.heap.size W W' := by
  obtain ⟨n, hn⟩ := open_scope k0 h0
  obtain ⟨t, ht⟩ := hn n (Nat.le_refl _)
  obtain ⟨r, hr⟩ := open_zrec k1 h1
  exact scopeMatches_main n t r v0 v1 W ht hr
end
end Go.Proofs.Ytcbkokhjdleoeaa
section
namespace Go.Proofs.Ytcbkokhjdleoeaa.scopeMatches
open Go.ChangeShapes Go.WideShapes Go.ChangeAt Go.RowKit
theorem own : ownKnob Try.prog.godebug = none := by kernel_rfl
theorem laidOut : laidOutB Try.prog = true := by kernel_rfl
set_option maxRecDepth 100000 in
theorem lifted (os : Os) (started : os.Started) (H : Type) (enc : TypeId × Value → H) :
    ReturnsInHanded {} Try.checked os 5 .any (Rows.scopeMatchesSpec.pre6 enc Try.prog Try.f5 Rows.scopeMatchesRow.domain false) (Rows.scopeMatchesSpec.post enc Try.prog Try.f5 false true false false) := by
  refine returnsInHanded_of_change (C := Try.checked) own started (by kernel_rfl) Try.func5
    (ChangeSpec.witness6 (enc := enc) (C := Try.checked) false ⟨#[], #[.agg #[.int .i64 0, .string ByteArray.empty, .int .i64 0, .int .i64 0, .slice none 0 0], .agg #[.string ByteArray.empty, .string ByteArray.empty, .string ByteArray.empty, .string ByteArray.empty, .int .i64 0, .int .i64 0]], []⟩ 8 (by kernel_rfl) (by kernel_rfl) (by kernel_rfl) (by kernel_rfl)) ?_
  intro W base args ds gs before hval0 hW hcnd _
  have hval : ∀ (j : Nat) t v, Try.f5.params[j]? = some t → args[j]? = some v → Value.okWide Try.prog W .any base t v := hval0
  have hW' := hW
  obtain ⟨p, q, hA0, hV, rfl, hfz, hnd⟩ := hW
  have hA : DataW.TrodAll enc Try.prog W 0 (fun _ => true) true Try.f5.params.toList args.toList ds p := hA0
  rw [Try.params5] at hA hval
  obtain ⟨v0, vs0, d0, ds0, p0, q0, hargs, rfl, rfl, h0, r0⟩ := trodAll_cons hA
  obtain ⟨v1, vs1, d1, ds1, p1, q1, rfl, rfl, rfl, h1, r1⟩ := trodAll_cons r0
  obtain ⟨rfl, rfl, rfl⟩ := trodAll_nil r1
  obtain rfl : args = #[v0, v1] := by cases args; simp_all
  obtain ⟨rfl, rfl⟩ := trodVars_none hV
  have lt0 : ∀ x ∈ p0, x.block < W.heap.size := by obtain ⟨m, hm⟩ := h0; exact DataW.trod_lt m _ _ _ hm
  have lt1 : ∀ x ∈ p1, x.block < W.heap.size := by obtain ⟨m, hm⟩ := h1; exact DataW.trod_lt m _ _ _ hm
  refine (scopeMatches_law enc W base v0 d0 p0 v1 d1 p1 (hval 0 _ v0 rfl rfl) (hval 1 _ v1 rfl rfl) h0 h1).mono fun e W' ⟨he, bel⟩ => ?_
  subst he
  exact ⟨_, rfl, _, _, _, [], _, [], hW', trodAll_mk1 (shut_bool Try.underlying4 _), (trodAll_cons_mk (Below.trod laidOut (by kernel_rfl) (of_decide_eq_true (by kernel_rfl)) h0 bel lt0) (trodAll_cons_mk (Below.trod laidOut (by kernel_rfl) (of_decide_eq_true (by kernel_rfl)) h1 bel lt1) trodAll_mk0)), rfl, bel.frame _, fun h => by cases h⟩
theorem over : Rows.scopeMatchesRow.holds Try.pinned (OpenSpec.ofChange Rows.scopeMatchesSpec) :=
  OpenClaim.holds_of_wide 5 Try.f5 rfl rfl rfl rfl rfl rfl rfl ⟨rfl, rfl, rfl, rfl, rfl⟩ rfl rfl rfl rfl rfl (by kernel_rfl) Try.func5 (by kernel_rfl)
    (of_decide_eq_true (by kernel_rfl)) (by unfold Func.isWrapper; first | (rw [if_pos (by decide +kernel)]; kernel_rfl) | (rw [if_neg (by decide +kernel)]; exact ⟨rfl, rfl⟩))
    (fun os started H enc _ => lifted os started H enc)
theorem proved : Rows.ScopeMatchesSaid := over
end Go.Proofs.Ytcbkokhjdleoeaa.scopeMatches
end
