/-
  live: the page's examples, over the loaded program. No condition.
-/
import Derived.Test.YtelcfchnaglpcaaAlB
import Derived.Test.YtelcfchnaglpcaaSame
namespace Go.Proofs.Ytelcfchnaglpcaa
open Go.RowKit
set_option maxRecDepth 100000
set_option linter.unusedVariables false

/-- true, and nothing of what was there has turned. -/
def YesA (w : World) (e : Ending) (w' : World) : Prop := e = .returned (.bool true) ∧ Below w.heap.size w w'

theorem pick_ex : pickS [true, false, false] 2 = ([1, 2], true) := by decide +kernel
theorem bits_ex : bitsS [0, 9] 10 = ([128, 64], true) := by decide +kernel
theorem pages_ex : pagesS 257 = 2 := by decide +kernel

set_option maxHeartbeats 1000000 in
/-- live. -/
theorem live_any (w : World) : Calls Try.prog 7 #[] w (YesA w) := by
  have hpk := fun (v : Value) (W : World) (h : BO W (fun b => b < W.heap.size) v [true, false, false]) => pick_any v [true, false, false] 2 (by simp) W h
  rw [pick_ex] at hpk
  have hbt := fun (v : Value) (W : World) (h : IS W (fun b => b < W.heap.size) v [0, 9]) => bits_any v [0, 9] 10 (by simp) W h
  rw [bits_ex] at hbt
  have hpg := fun W => pages_any 257 ⟨by omega, by omega⟩ W
  rw [pages_ex] at hpg
  have u0 := ((BO.lit w 4 [true, false, false] (by simp [maxLen])).lt).mono (S' := fun b => b < (w.alloc (.cells ([true, false, false].map Value.bool).toArray 4)).heap.size) fun b h => h.2
  have B0 := (Below.refl w.heap.size w).alloc (Nat.le_refl _) (.cells ([true, false, false].map Value.bool).toArray 4)
  go_enter Try.func7, Try.ntmps7
  go_wp2_with fail
  refine (hpk _ _ u0).mono ?_
  rintro e w1 ⟨v1, rfl, how1, b1⟩
  have q1 := own_IS how1
  obtain ⟨A1, c1, rfl, _⟩ := q1.form
  replace B0 := B0.trans (b1.mono B0.size)
  have u1 := ((IS.lit w1 3 [0, 9] (by simp [maxLen])).lt).mono (S' := fun b => b < (w1.alloc (.cells ([0, 9].map iv).toArray 3)).heap.size) fun b h => h.2
  have B1 := B0.alloc B0.size (.cells ([0, 9].map iv).toArray 3)
  replace q1 := q1.alloc (.cells ([0, 9].map iv).toArray 3)
  clear hpk u0 B0 how1 b1
  go_wp2_with fail
  refine (hbt _ _ u1).mono ?_
  rintro e w2 ⟨v2, rfl, q2, b2⟩
  obtain ⟨A2, c2, rfl, _⟩ := q2.form
  replace q1 := q1.below' b2
  have B2 := B1.trans (b2.mono B1.size)
  have x1 := IS.lit w2 3 [1, 2] (by simp [maxLen])
  replace q1 := q1.alloc (.cells ([1, 2].map iv).toArray 3)
  replace q2 := q2.alloc (.cells ([1, 2].map iv).toArray 3)
  have B3 := B2.alloc B2.size (.cells ([1, 2].map iv).toArray 3)
  clear hbt u1 b2 B1 B2
  go_wp2_with fail
  refine (sameInts_is _ _ _ _ _ _ _ q1 x1).mono ?_
  rintro e w3 ⟨rfl, b3⟩
  replace q2 := q2.below' b3
  replace B3 := B3.trans (b3.mono B3.size)
  have x2 := BS.lit w3 5 [128, 64] (by simp [maxLen])
  replace q2 := q2.alloc (.cells (([128, 64] : List UInt8).map bv).toArray 5)
  have B4 := B3.alloc B3.size (.cells (([128, 64] : List UInt8).map bv).toArray 5)
  clear q1 x1 b3 B3
  rw [decide_eq_true rfl]
  go_wp2_with fail
  refine (same_to _ _ _ _ _ _ q2 x2).mono ?_
  rintro e w4 ⟨rfl, b4⟩
  replace B4 := B4.trans (b4.mono B4.size)
  clear q2 x2 b4
  go_wp2_with (go_at_call 21; refine (hpg _).mono ?_; rintro e w' ⟨rfl, rfl⟩)
  go_ret
  exact ⟨rfl, B4⟩
end Go.Proofs.Ytelcfchnaglpcaa
