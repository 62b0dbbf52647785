/-
  WtB: The document's Text (layer 21), over the loaded program: its contract. No condition.
  WritTextW: The law WritText over the loaded program: every scope's text, or the error. No condition but that the listed variables are as laid.
  WritTextP: THE STATEMENT WritText of layer: proved out of the law's contract (writText_law): for every input the call returns true, and the input reads as it did. No condition.
-/
import Derived.Test.YtjecjlhofnnnpaaGreatDoorWy25
import Derived.Test.YtjecjlhofnnnpaaGreatDoorWy21
import Derived.Test.YtjecjlhofnnnpaaGreatDoorWy29
import Derived.Test.YtjecjlhofnnnpaaGreatDoorCards
import Derived.Test.YtjecjlhofnnnpaaGreatDoorTie
import Derived.Test.YtjecjlhofnnnpaaGreatDoorWy07
import Derived.Lay
import Derived.Stop.Joined
import Derived.SevenTiedAt
import Derived.WalkKit
import Derived.ProofKit
import Derived.OpenShut
import Derived.ShutString
import Derived.ChangeOld
import Derived.Below
set_option linter.unusedVariables false
set_option maxRecDepth 100000
namespace Go.Proofs.YtjecjlhofnnnpaaGreatDoor
section
open Go.RowKit
set_option maxHeartbeats 4000000 in
theorem wrtext_any (S : Nat → Prop) (f : Nat) (t : Sc f) (v : Value) (w : World) (hv : ZV w S f v t) :
    Calls Tryz.prog 8 #[v] w fun e w' => e = .returned (.tuple #[strV (textSc f t).1, .int .i64 (textSc f t).2]) ∧ Below w.heap.size w w' := by
  obtain ⟨i0, l1, i2, i3, X4, n4, z4, rfl⟩ := hv.form
  have hv2 := hv.alloc (.cells #[.int .i64 i0, strV l1, .int .i64 i2, .int .i64 i3, .slice X4 n4 z4] 24)
  have K := KB.new w 24 #[.int .i64 i0, strV l1, .int .i64 i2, .int .i64 i3, .slice X4 n4 z4]
  have B := (Below.refl w.heap.size w).alloc (Nat.le_refl _) (.cells #[.int .i64 i0, strV l1, .int .i64 i2, .int .i64 i3, .slice X4 n4 z4] 24)
  have hm := zrmay_any S f t _ _ hv2
  have htx : mayS f t = true → ∀ W, ZV W S f (.agg #[.int .i64 i0, strV l1, .int .i64 i2, .int .i64 i3, .slice X4 n4 z4]) t → Calls Tryz.prog 17 #[.agg #[.int .i64 i0, strV l1, .int .i64 i2, .int .i64 i3, .slice X4 n4 z4]] W fun e w' => e = .returned (strV (joinW (toksW f t))) ∧ Below W.heap.size W w' := fun hm W hv => by
    unfold mayS at hm
    rw [Bool.and_eq_true, decide_eq_true_eq] at hm
    rw [textB_is f t 8 hm.1]
    exact wtext_any S f t _ 8 W hm.1 hm.2 hv
  replace htx := Lib.hid htx
  unfold textSc
  cases hb : mayS f t with
  | false =>
    rw [hb] at hm
    rw [if_neg (by simp)]
    clear htx hv hv2
    unfold strV at *
    have c0 : (w.alloc (.cells #[.int .i64 i0, .string ⟨l1.toArray⟩, .int .i64 i2, .int .i64 i3, .slice X4 n4 z4] 24)).cell? ⟨w.heap.size, 0, none⟩ = some (.int .i64 i0) := K.cell 0
    go_enter Tryz.func8, Tryz.ntmps8
    go_wp2_with fail
    refine hm.mono ?_
    rintro e w1 ⟨rfl, b1⟩
    have B1 := B.trans (b1.mono B.size)
    clear hm K B
    go_wp2_with fail
    go_ret2
    exact ⟨rfl, B1⟩
  | true =>
    rw [hb] at hm
    rw [if_pos rfl]
    have ht := fun W h => htx.out hb W h
    replace ht := Lib.hid ht
    clear htx hv
    unfold strV at *
    generalize hj : (⟨(joinW (toksW f t)).toArray⟩ : ByteArray) = J at *
    go_enter Tryz.func8, Tryz.ntmps8
    go_wp2_with fail
    refine hm.mono ?_
    rintro e w1 ⟨rfl, b1⟩
    have B1 := B.trans (b1.mono B.size)
    have K1 := K.below b1 K.lt
    have hv1 := hv2.below' b1
    have hc := ht.out w1 hv1
    have c0 : w1.cell? ⟨w.heap.size, 0, none⟩ = some (.int .i64 i0) := K1.cell 0
    have c1 : w1.cell? ⟨w.heap.size, 1, none⟩ = some (.string ⟨l1.toArray⟩) := K1.cell 1
    have c2 : w1.cell? ⟨w.heap.size, 2, none⟩ = some (.int .i64 i2) := K1.cell 2
    have c3 : w1.cell? ⟨w.heap.size, 3, none⟩ = some (.int .i64 i3) := K1.cell 3
    have c4 : w1.cell? ⟨w.heap.size, 4, none⟩ = some (.slice X4 n4 z4) := K1.cell 4
    clear hm K B b1 hv1 hv2 ht hb
    go_wp2_with fail
    refine hc.mono ?_
    rintro e w2 ⟨rfl, b2⟩
    have B2 := B1.trans (b2.mono B1.size)
    clear hc b2 B1
    go_wp2_with fail
    go_ret2
    exact ⟨rfl, B2⟩
end
section
open Go.RowKit Go.ChangeShapes Go.WideShapes Go.Joins
theorem text_num {f : Nat} (t : Sc f) : I64 (textSc f t).2 := by
  unfold textSc I64
  split <;> simp
set_option maxHeartbeats 4000000 in
theorem writText_main (f : Nat) (t : Sc f) (v : Value) (w : World) (hT : Tabs w) (h : ZV w (fun b => b < w.heap.size) f v t) : Calls Tryz.prog 3 #[v] w (Yes21 w) := by
  obtain ⟨i0, l1, i2, i3, X4, n4, z4, rfl⟩ := h.form
  have h1 := h.alloc (.cells #[.int .i64 i0, strV l1, .int .i64 i2, .int .i64 i3, .slice X4 n4 z4] 24)
  have B1 := (Below.refl w.heap.size w).alloc (Nat.le_refl _) (.cells #[.int .i64 i0, strV l1, .int .i64 i2, .int .i64 i3, .slice X4 n4 z4] 24)
  have kb := KB.new w 24 #[.int .i64 i0, strV l1, .int .i64 i2, .int .i64 i3, .slice X4 n4 z4]
  have hs := zsmall_any _ f t _ _ h1
  have hI := text_num t
  have HP1 : Hid (∀ W, Below w.heap.size w W → Calls Tryz.prog 7 #[.agg #[.int .i64 i0, strV l1, .int .i64 i2, .int .i64 i3, .slice X4 n4 z4]] W fun e w' => e = .returned (.tuple #[strV (textSc f t).1, .int .i64 (textSc f t).2]) ∧ Below W.heap.size W w') := fun W hb => pText_any _ f t _ W (fun b hb' => Nat.lt_of_lt_of_le hb' hb.size) (hT.below hb).1 (h.below' hb)
  have HP2 : Hid (∀ W, Below w.heap.size w W → Calls Tryz.prog 8 #[.agg #[.int .i64 i0, strV l1, .int .i64 i2, .int .i64 i3, .slice X4 n4 z4]] W fun e w' => e = .returned (.tuple #[strV (textSc f t).1, .int .i64 (textSc f t).2]) ∧ Below W.heap.size W w') := fun W hb => wrtext_any _ f t _ W (h.below' hb)
  have HLV : Hid (∀ W, Below w.heap.size w W → Calls Tryz.prog 6 #[] W (Yes21 W)) := fun W hb => live21_any W (hT.below hb)
  have HNM := Lib.hid (wlnum_any _ hI)
  clear h h1 hT hI
  generalize textSc f t = r at *
  obtain ⟨lb, c⟩ := r
  dsimp only at HP1 HP2 HNM
  unfold strV at *
  generalize (⟨l1.toArray⟩ : ByteArray) = s at *
  generalize (⟨lb.toArray⟩ : ByteArray) = sr at *
  have eqs : (sr.toList == sr.toList) = true := by simp
  have eqc : (c == c) = true := by simp
  go_enter Tryz.func3, Tryz.ntmps3
  go_wp2_with fail
  refine hs.mono ?_
  rintro e w1 ⟨b, rfl, _, b1⟩
  have kb2 := kb.below b1 kb.lt
  have B2 := B1.trans (b1.mono B1.size)
  clear hs b1 kb B1
  cases b with
  | false =>
    have hlv := HLV.out _ B2
    clear HP1 HP2 HLV HNM
    go_wp2_with fail
    refine hlv.mono ?_
    rintro e w2 ⟨rfl, b2⟩
    have B3 := B2.trans (b2.mono B2.size)
    go_wp2_with fail
    go_ret
    exact ⟨rfl, B3⟩
  | true =>
    have q0 : w1.cell? ⟨w.heap.size, 0, none⟩ = some (.int .i64 i0) := kb2.cell 0
    have q1 : w1.cell? ⟨w.heap.size, 1, none⟩ = some (.string s) := kb2.cell 1
    have q2 : w1.cell? ⟨w.heap.size, 2, none⟩ = some (.int .i64 i2) := kb2.cell 2
    have q3 : w1.cell? ⟨w.heap.size, 3, none⟩ = some (.int .i64 i3) := kb2.cell 3
    have q4 : w1.cell? ⟨w.heap.size, 4, none⟩ = some (.slice X4 n4 z4) := kb2.cell 4
    have hp1 := HP1.out _ B2
    clear HP1
    go_wp2_with fail
    refine hp1.mono ?_
    rintro e w2 ⟨rfl, b2⟩
    have kb3 := kb2.below b2 kb2.lt
    have B3 := B2.trans (b2.mono B2.size)
    clear hp1 b2 kb2 B2 q0 q1 q2 q3 q4
    have q0 : w2.cell? ⟨w.heap.size, 0, none⟩ = some (.int .i64 i0) := kb3.cell 0
    have q1 : w2.cell? ⟨w.heap.size, 1, none⟩ = some (.string s) := kb3.cell 1
    have q2 : w2.cell? ⟨w.heap.size, 2, none⟩ = some (.int .i64 i2) := kb3.cell 2
    have q3 : w2.cell? ⟨w.heap.size, 3, none⟩ = some (.int .i64 i3) := kb3.cell 3
    have q4 : w2.cell? ⟨w.heap.size, 4, none⟩ = some (.slice X4 n4 z4) := kb3.cell 4
    have hp2 := HP2.out _ B3
    clear HP2
    go_wp2_with fail
    refine hp2.mono ?_
    rintro e w3 ⟨rfl, b3⟩
    have B4 := B3.trans (b3.mono B3.size)
    clear hp2 b3 kb3 B3 q0 q1 q2 q3 q4
    have hn := HNM.out w3
    have hlv := HLV.out _ B4
    clear HNM HLV
    go_wp2_with fail
    refine hn.mono ?_
    rintro e w4 ⟨rfl, rfl⟩
    clear hn
    go_wp2_with fail
    refine hlv.mono ?_
    rintro e w5 ⟨rfl, b5⟩
    have B5 := B4.trans (b5.mono B4.size)
    clear hlv
    go_wp2_with fail
    go_ret
    exact ⟨rfl, B5⟩
theorem writText_law {H : Type} (enc : TypeId × Value → H) (W : World) (base : Nat) (hT : Tabs W) (v0 : Value) (d0 : DataW H) (p0 : List MemPlace)
    (k0 : Value.okWide Tryz.prog W .any base 24 v0) (h0 : DataW.Trod enc Tryz.prog W 0 (fun _ => true) true 24 v0 d0 p0) :
    Calls Tryz.prog 3 #[v0] W fun e W' => e = .returned (.bool true) ∧ Below W.heap.size W W' := by
  obtain ⟨n, hn⟩ := open_scope k0 h0
  obtain ⟨t, ht⟩ := hn n (Nat.le_refl _)
  exact writText_main n t v0 W hT ht
end
end Go.Proofs.YtjecjlhofnnnpaaGreatDoor
section
namespace Go.Proofs.YtjecjlhofnnnpaaGreatDoor.writText
open Go.ChangeShapes Go.WideShapes Go.ChangeAt Go.RowKit
theorem own : ownKnob Tryz.prog.godebug = none := by kernel_rfl
theorem laidOut : laidOutB Tryz.prog = true := by kernel_rfl
set_option maxRecDepth 100000 in
theorem lifted (os : Os) (started : os.Started) (H : Type) (enc : TypeId × Value → H) :
    ReturnsInHanded {} Tryz.checked os 3 .any (fun w args => (Rows.writTextSpec.pre enc Tryz.prog Tryz.f3 [] false w args ∧ laidMetH Tryz.prog Rows.writTextRow.laid w) ∧ sizedMet enc Tryz.prog Tryz.f3 (OpenSpec.ofChange Rows.writTextSpec) false w args)
      (Rows.writTextSpec.post enc Tryz.prog Tryz.f3 false true false false) := by
  refine returnsInHanded_of_change_and (C := Tryz.checked) (X := fun w _ => laidMetH Tryz.prog Rows.writTextRow.laid w) (fun _ _ _ hh h => h.of_heap hh) own started (by kernel_rfl) Tryz.func3
    (ChangeSpec.witness_shaped (enc := enc) (C := Tryz.checked) (os := os) (X := fun w _ => laidMetH Tryz.prog Rows.writTextRow.laid w) false (World.laidAll Tryz.prog os Rows.writTextRow.laid) #[.agg #[.int .i64 0, .string ByteArray.empty, .int .i64 0, .int .i64 0, .slice none 0 0]] 8 (World.laidAll_os _ _ _)
      (World.shaped_of_ZipB (by kernel_rfl) (by kernel_rfl)) (by kernel_rfl) (by kernel_rfl) (by kernel_rfl)
      (by rw [MakeChecks.laidMetH_plain _ _ _ (by kernel_rfl)]; exact laidMet_laidAll _ (by kernel_rfl) (by kernel_rfl))) ?_
  intro W base args ds gs before hval0 hW _ _ hL _
  have hval : ∀ (j : Nat) t v, Tryz.f3.params[j]? = some t → args[j]? = some v → Value.okWide Tryz.prog W .any base t v := hval0
  have hW' := hW
  obtain ⟨p, q, hA0, hV, rfl, hfz, hnd⟩ := hW
  have hA : DataW.TrodAll enc Tryz.prog W 0 (fun _ => true) true Tryz.f3.params.toList args.toList ds p := hA0
  rw [Tryz.params3] at hA hval
  obtain ⟨v0, vs0, d0, ds0, p0, q0, hargs, rfl, rfl, h0, r0⟩ := trodAll_cons hA
  obtain ⟨rfl, rfl, rfl⟩ := trodAll_nil r0
  obtain rfl : args = #[v0] := by cases args; simp_all
  obtain ⟨rfl, rfl⟩ := trodVars_none hV
  have lt0 : ∀ x ∈ p0, x.block < W.heap.size := by obtain ⟨m, hm⟩ := h0; exact DataW.trod_lt m _ _ _ hm
  refine (writText_law enc W base (tabs_of_laid (by kernel_rfl) hL) v0 d0 p0 (hval 0 _ v0 rfl rfl) h0).mono fun e W' ⟨he, bel⟩ => ?_
  subst he
  exact ⟨_, rfl, _, _, _, [], _, [], hW', trodAll_mk1 (shut_bool Tryz.underlying4 _), (trodAll_cons_mk (Below.trod laidOut (by kernel_rfl) (of_decide_eq_true (by kernel_rfl)) h0 bel lt0) trodAll_mk0), rfl, bel.frame _, fun h => by cases h⟩
theorem over : Rows.writTextRow.holds Tryz.pinned (OpenSpec.ofChange Rows.writTextSpec) :=
  OpenClaim.holds_of_wide 3 Tryz.f3 rfl rfl rfl rfl rfl rfl rfl ⟨rfl, rfl, rfl, rfl, rfl⟩ rfl rfl rfl rfl rfl (by kernel_rfl) Tryz.func3 (by kernel_rfl)
    (of_decide_eq_true (by kernel_rfl)) (by unfold Func.isWrapper; first | (rw [if_pos (by decide +kernel)]; kernel_rfl) | (rw [if_neg (by decide +kernel)]; exact ⟨rfl, rfl⟩))
    (fun os started H enc _ => lifted os started H enc)
theorem proved : Rows.WritTextSaid := over
theorem row_tie : Rows.writTextRow.laidByTextAt .later Tryz.pinned [.data, .data, .data, .data, .sentinel, .sentinel, .pinned] true := writText_row_tie
theorem card : Rows.WritTextCardSaid :=
  Claim7.holds_tied_plain_at .later [] [.data, .data, .data, .data, .sentinel, .sentinel, .pinned] true Rows.writTextCard.stood.harness true
    over (fun _ h => by cases h) (by kernel_rfl) (fun _ h => by cases h) row_tie rfl ⟨rfl, rfl⟩ (by kernel_rfl) rfl
    (fun f fn hf hfn => by
      obtain rfl : f = 3 := Option.some.inj ((show Tryz.prog.funcNamed Rows.writTextRow.func = some 3 by kernel_rfl).symm.trans hf) |>.symm
      obtain rfl : fn = Tryz.f3 := (Option.some.inj (Tryz.func3.symm.trans hfn)).symm
      exact ⟨by kernel_rfl, fun j t ht => by
        rw [Tryz.params3] at ht
        have hm : t ∈ [24] := by simpa using Array.mem_of_getElem? ht
        have hall : ([24].all fun u => !Tryz.prog.wantsStandIn u) = true := by kernel_rfl
        exact (show Tryz.prog.wantsStandIn t = false by simpa using List.all_eq_true.1 hall t hm)⟩)
    (by kernel_rfl)
end Go.Proofs.YtjecjlhofnnnpaaGreatDoor.writText
end
