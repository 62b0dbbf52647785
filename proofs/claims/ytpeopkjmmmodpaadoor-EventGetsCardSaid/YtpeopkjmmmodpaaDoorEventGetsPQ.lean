/-
  EventGetsW: The law EventGets over the loaded program: which event every bytes are. No condition but the contracts of the package's own functions.
  EventGetsV: The law EventGets, from the arguments as they come. No condition but that the listed variables are as laid.
  EventGetsP: THE STATEMENT EventGets of layer: proved out of the law's contract (eventGets_law): for every input the call returns true, and the input reads as it did. No condition.
-/
import Derived.Test.YtpeopkjmmmodpaaDoorEy05
import Derived.Test.YtpeopkjmmmodpaaDoorEy10
import Derived.Test.YtpeopkjmmmodpaaDoorCards
import Derived.Test.YtpeopkjmmmodpaaDoorTie
import Derived.Stop.Joined
import Derived.SevenTiedAt
import Derived.WalkKit
import Derived.ProofKit
import Derived.OpenShut
import Derived.ShutString
import Derived.ChangeOld
import Derived.Below
set_option linter.unusedVariables false
set_option maxRecDepth 100000
namespace Go.Proofs.YtpeopkjmmmodpaaDoor
section
open Go.RowKit Go.ChangeShapes Go.WideShapes Go.Joins
set_option maxHeartbeats 16000000 in
theorem eventGets_main {T : World → Prop} (hC : EvOk T) (l : List UInt8) (v : Value) (w : World) (hT : T w) (hv : BS w (fun b => b < w.heap.size) v l) :
    Calls Tryd.prog 4 #[v] w fun e w' => e = .returned (.bool true) ∧ Below w.heap.size w w' := by
  have HT : Hid (∀ W, Below w.heap.size w W → T W) := fun W hb => hC.past _ _ hT hb
  have HL : Hid (∀ W, Below w.heap.size w W → Calls Tryd.prog 6 #[] W fun e w' => e = .returned (.bool true) ∧ Below W.heap.size W w') := fun W hb => evlive_any hC W (HT.out W hb)
  obtain ⟨A, c, rfl, hc1, hc2, _⟩ := hv.form
  have hlen : l.length ≤ 9223372036854775807 := by unfold maxLen at hc2; omega
  by_cases h300 : 300 < l.length
  · have d1 : decide ((300 : Int) < (l.length : Int)) = true := decide_eq_true (by omega)
    clear HT hv
    go_enter Tryd.func4, Tryd.ntmps4
    go_wp2_with fail
    refine (HL.out _ (Below.refl _ _)).mono ?_
    rintro e w2 ⟨rfl, b2⟩
    clear HL
    go_wp2_with fail
    go_ret
    exact ⟨rfl, b2⟩
  have d1 : decide ((300 : Int) < (l.length : Int)) = false := decide_eq_false (by omega)
  have HG := Lib.hid (hC.get _ l w hT hv (by omega))
  have HR := Lib.hid (fun W (hb : Below w.heap.size w W) => evget_any _ _ l W (hv.below' hb) (by omega))
  have HN := Lib.hid (fun e W => evnum_any e W)
  clear h300 hv HT
  obtain ⟨⟨⟨k, t, a, b⟩, re⟩, hr⟩ : ∃ r, getE l = r := ⟨_, rfl⟩
  have hg := HG.out
  have hh := HR.out
  rw [hr] at hg hh
  replace HG := Lib.hid hg
  replace HR := Lib.hid hh
  clear hg hh hr
  go_enter Tryd.func4, Tryd.ntmps4
  go_wp2_with fail
  refine HG.out.mono ?_
  rintro e w1 ⟨vx, rfl, ⟨rfl, _⟩, b1⟩
  clear HG
  dsimp only
  have hva : ∃ s : ByteArray, strV a = .string s := ⟨_, rfl⟩
  have hvb : ∃ s : ByteArray, strV b = .string s := ⟨_, rfl⟩
  obtain ⟨sa, hsa⟩ := hva
  obtain ⟨sb, hsb⟩ := hvb
  rw [hsa, hsb]
  have K := KB.new w1 23 #[.int .i64 k, .int .i64 t, .string sa, .string sb]
  have bn := (Below.refl w1.heap.size w1).alloc (Nat.le_refl _) (.cells #[.int .i64 k, .int .i64 t, .string sa, .string sb] 23)
  have B := b1.trans (bn.mono b1.size)
  clear bn b1
  go_wp2_with fail
  refine (HR.out _ B).mono ?_
  rintro e w2 ⟨vy, rfl, ⟨rfl, _⟩, b2⟩
  dsimp only
  rw [hsa, hsb]
  clear HR hsa hsb
  replace K := K.below b2 K.lt
  replace B := B.trans (b2.mono B.size)
  have L := KB.new w2 23 #[.int .i64 k, .int .i64 t, .string sa, .string sb]
  have bn := (Below.refl w2.heap.size w2).alloc (Nat.le_refl _) (.cells #[.int .i64 k, .int .i64 t, .string sa, .string sb] 23)
  replace K := K.below bn K.lt
  replace B := B.trans (bn.mono B.size)
  have heq := fun W => ev_eql W k t k t sa sb sa sb
  simp only [beq_self_eq_true, Bool.and_self] at heq
  have q0 := K.cell 0
  have q1 := K.cell 1
  have q2 := K.cell 2
  have q3 := K.cell 3
  have y0 := L.cell 0
  have y1 := L.cell 1
  have y2 := L.cell 2
  have y3 := L.cell 3
  clear b2 bn
  go_wp2_with fail
  refine (HN.out _ _).mono ?_
  rintro e w3 ⟨rfl, rfl⟩
  clear HN q0 q1 q2 q3 y0 y1 y2 y3 K L
  go_wp2_with fail
  refine (HL.out _ B).mono ?_
  rintro e w4 ⟨rfl, b4⟩
  replace B := B.trans (b4.mono B.size)
  clear HL b4
  go_wp2_with fail
  go_ret
  exact ⟨rfl, B⟩
end
section
open Go.RowKit Go.ChangeShapes Go.WideShapes Go.Joins
theorem eventGets_law {H : Type} (enc : TypeId × Value → H) (W : World) (base : Nat) (hT : ETabs W) (v0 : Value) (d0 : DataW H) (p0 : List MemPlace)
    (k0 : Value.okWide Tryd.prog W .any base 25 v0)
    (h0 : DataW.Trod enc Tryd.prog W 0 (fun _ => true) true 25 v0 d0 p0) :
    Calls Tryd.prog 4 #[v0] W fun e W' => e = .returned (.bool true) ∧ Below W.heap.size W W' := by
  obtain ⟨l0, hb0⟩ := BS_of_arg k0 h0
  exact eventGets_main evOk l0 v0 W hT (hb0.lt.mono fun b h => h.2)
end
end Go.Proofs.YtpeopkjmmmodpaaDoor
section
namespace Go.Proofs.YtpeopkjmmmodpaaDoor.eventGets
open Go.ChangeShapes Go.WideShapes Go.ChangeAt Go.RowKit
theorem own : ownKnob Tryd.prog.godebug = none := by kernel_rfl
theorem laidOut : laidOutB Tryd.prog = true := by kernel_rfl
theorem door_met (os : Os) (args : Array Value) : laidMetH Tryd.prog Rows.eventGetsRow.laid ((World.doorLaid Tryd.prog 400 os).forCall (fun _ _ => 0) ⟨#[], args, []⟩).memory :=
  laidMetH_of_parts3 (fuel := 8) (laidMet_of_run' 8 (by kernel_rfl) (by kernel_rfl)) (by kernel_rfl) (by kernel_rfl)
set_option maxRecDepth 100000 in
theorem lifted (os : Os) (started : os.Started) (H : Type) (enc : TypeId × Value → H) :
    ReturnsInHanded {} Tryd.checked os 4 .any (fun w args => (Rows.eventGetsSpec.pre enc Tryd.prog Tryd.f4 [] false w args ∧ laidMetH Tryd.prog Rows.eventGetsRow.laid w) ∧ sizedMet enc Tryd.prog Tryd.f4 (OpenSpec.ofChange Rows.eventGetsSpec) false w args)
      (Rows.eventGetsSpec.post enc Tryd.prog Tryd.f4 false true false false) := by
  refine returnsInHanded_of_change_and (C := Tryd.checked) (X := fun w _ => laidMetH Tryd.prog Rows.eventGetsRow.laid w) (fun _ _ _ hh h => h.of_heap hh) own started (by kernel_rfl) Tryd.func4
    (ChangeSpec.witness_shaped (enc := enc) (C := Tryd.checked) (os := os) (X := fun w _ => laidMetH Tryd.prog Rows.eventGetsRow.laid w) false (World.doorLaid Tryd.prog 400 os) #[.slice none 0 0] 8 rfl (World.shaped_of_RefB (by kernel_rfl) (by kernel_rfl)) (by kernel_rfl) (by kernel_rfl) (by kernel_rfl) (door_met os _)) ?_
  intro W base args ds gs before hval0 hW _ _ hL _
  have hval : ∀ (j : Nat) t v, Tryd.f4.params[j]? = some t → args[j]? = some v → Value.okWide Tryd.prog W .any base t v := hval0
  have hW' := hW
  obtain ⟨p, q, hA0, hV, rfl, hfz, hnd⟩ := hW
  have hA : DataW.TrodAll enc Tryd.prog W 0 (fun _ => true) true Tryd.f4.params.toList args.toList ds p := hA0
  rw [Tryd.params4] at hA hval
  obtain ⟨v0, vs0, d0, ds0, p0, q0, hargs, rfl, rfl, h0, r0⟩ := trodAll_cons hA
  obtain ⟨rfl, rfl, rfl⟩ := trodAll_nil r0
  obtain rfl : args = #[v0] := by cases args; simp_all
  obtain ⟨rfl, rfl⟩ := trodVars_none hV
  have lt0 : ∀ x ∈ p0, x.block < W.heap.size := by obtain ⟨m, hm⟩ := h0; exact DataW.trod_lt m _ _ _ hm
  refine (eventGets_law enc W base (etabs_of_laid (by kernel_rfl) hL) v0 d0 p0 (hval 0 _ v0 rfl rfl) h0).mono fun e W' ⟨he, bel⟩ => ?_
  subst he
  exact ⟨_, rfl, _, _, _, [], _, [], hW', trodAll_mk1 (shut_bool Tryd.underlying4 _), (trodAll_cons_mk (Below.trod laidOut (by kernel_rfl) (of_decide_eq_true (by kernel_rfl)) h0 bel lt0) trodAll_mk0), rfl, bel.frame _, fun h => by cases h⟩
theorem over : Rows.eventGetsRow.holds Tryd.pinned (OpenSpec.ofChange Rows.eventGetsSpec) :=
  OpenClaim.holds_of_wide 4 Tryd.f4 rfl rfl rfl rfl rfl rfl rfl ⟨rfl, rfl, rfl, rfl, rfl⟩ rfl rfl rfl rfl rfl (by kernel_rfl) Tryd.func4 (by kernel_rfl)
    (of_decide_eq_true (by kernel_rfl)) (by unfold Func.isWrapper; first | (rw [if_pos (by decide +kernel)]; kernel_rfl) | (rw [if_neg (by decide +kernel)]; exact ⟨rfl, rfl⟩))
    (fun os started H enc _ => lifted os started H enc)
theorem proved : Rows.EventGetsSaid := over
theorem row_tie : Rows.eventGetsRow.laidByTextAt .later Tryd.pinned [.data, .data, .data, .data] true := eventGets_row_tie
theorem card : Rows.EventGetsCardSaid :=
  Claim7.holds_tied_plain_at .later [] [.data, .data, .data, .data] true Rows.eventGetsCard.stood.harness false
    over (fun _ h => by cases h) (by kernel_rfl) (fun _ h => by cases h) row_tie rfl ⟨rfl, rfl⟩ (by kernel_rfl) rfl
    (fun f fn hf hfn => by
      obtain rfl : f = 4 := Option.some.inj ((show Tryd.prog.funcNamed Rows.eventGetsRow.func = some 4 by kernel_rfl).symm.trans hf) |>.symm
      obtain rfl : fn = Tryd.f4 := (Option.some.inj (Tryd.func4.symm.trans hfn)).symm
      exact ⟨by kernel_rfl, fun j t ht => by
        rw [Tryd.params4] at ht
        have hm : t ∈ [25] := by simpa using Array.mem_of_getElem? ht
        have hall : ([25].all fun u => !Tryd.prog.wantsStandIn u) = true := by kernel_rfl
        exact (show Tryd.prog.wantsStandIn t = false by simpa using List.all_eq_true.1 hall t hm)⟩)
    (by kernel_rfl)
end Go.Proofs.YtpeopkjmmmodpaaDoor.eventGets
end
