/-
  The program's Check of layer 7: its contract over the loaded program.
  No condition but the table's, and lengths that a process can hold.
-/
import Derived.Test.YtjcdkfnjlmofiaaDoorCmA
import Derived.Test.YtjcdkfnjlmofiaaDoorArr
import Derived.Deep.RegionLaw
namespace Go.Proofs.YtjcdkfnjlmofiaaDoor
open Go.RowKit
set_option linter.unusedVariables false

attribute [local go_sem ↓] load32
attribute [local go_sem] rowOf_drew rowOf_drewN ptrBlock_mk

set_option maxRecDepth 100000 in
set_option maxHeartbeats 1000000 in
/-- Check. -/
theorem ccheck_any (S : Nat → Prop) (com : List UInt8) (v : Value) (s : Nat) (l : List UInt8) (w : World) (hc : com.length = 32) (h : BS w S v l) (hs : s < 18446744073709551616) (hl : l.length ≤ 100000000000) (ht : Tab w) :
    Calls Tryd.prog 9 #[.agg (com.map bv).toArray, .int .u64 s, v] w fun e w' => e = .returned (.bool (com == sumB (comB s l))) ∧ Below w.heap.size w w' := by
  have heq := eq32 com (sumB (comB s l)) hc (sumB_length _)
  have hcl : (com.map bv).length = 32 := by rw [List.length_map]; exact hc
  have hof := fun (W : World) (h : BS W (fun b => S b ∧ b < w.heap.size) v l) (ht : Tab W) => cof_any _ v s l W h hs hl ht
  unfold Sum32 at hof
  generalize (sumB (comB s l)).map bv = ss at *
  generalize com.map bv = cs at *
  obtain ⟨r, hr⟩ : ∃ r, r = (com == sumB (comB s l)) := ⟨_, rfl⟩
  rw [← hr] at heq ⊢
  clear hr
  have HOF := Lib.hid hof
  clear hof
  have k0 : KB (w.alloc (.cells cs.toArray 24)) w.heap.size 24 cs.toArray := KB.new _ _ _
  have B0 : Below w.heap.size w (w.alloc (.cells cs.toArray 24)) := (Below.refl _ _).alloc (Nat.le_refl _) _
  have h0 := h.lt.below' B0
  have t0 := ht.below B0
  have hsz : cs.toArray.size = 32 := by simpa using hcl
  go_enter Tryd.func9, Tryd.ntmps9
  go_wp2_with fail
  generalize w.alloc (.cells cs.toArray 24) = w1 at *
  have r0 := rowOf_kb k0
  go_region_law ((go_simp; first
    | (go_at_call 7; refine (HOF.out _ (by exact h0) (by exact t0)).mono ?_; rintro e w4 ⟨rfl, b4⟩; have b4' : Below w1.heap.size w1 w4 := (Below_drawn (Below.refl _ _) 1).trans b4; have r4 := rowOf_kb (k0.below b4' k0.lt))))
  all_goals
    go_wp2
    go_ret
    exact ⟨rfl, B0.trans (b4'.mono B0.size)⟩
end Go.Proofs.YtjcdkfnjlmofiaaDoor
