/-
  The law TlvNil over the loaded program: what a nil Reader answers, and one that New did not make. No condition.
-/
import Derived.Test.YtcmklfknhlfenaaLiveA
import Derived.ProofKit
import Derived.OpenShut
namespace Go.Proofs.Ytcmklfknhlfenaa
open Go.RowKit Go.ChangeShapes Go.WideShapes

theorem take_nil (n : Int) (w : World) :
    Calls Try.prog 25 #[.pointer none, .int .i64 n] w fun e w' => Fresh w e w' [] := by
  go_enter Try.func25, Try.ntmps25
  go_wp2_with (first | (go_at_call 32; refine (pass_nil _ _).mono ?_; rintro e w' ⟨rfl, rfl⟩) | (go_at_call 31; refine (clone_any (fun _ => True) _ [] _ (BS.nil _ _) (by simp)).mono ?_; rintro e w1 ⟨v, rfl, hown, hb⟩))
  go_ret
  exact ⟨_, rfl, hown, hb⟩

theorem cnt_none (n : Int) : cntOf n none = (none, 0) := by
  unfold cntOf
  split <;> rfl
theorem txt_none (n : Int) : txtOf n none = (none, []) := by
  unfold txtOf
  rw [cnt_none]
  simp [passed]

theorem tlvNil_any (n : Int) (hn : n ≤ 9223372036854775807) (w : World) :
    Calls Try.prog 6 #[.int .i64 n] w fun e w' => e = .returned (.bool true) ∧ Below w.heap.size w w' := by
  go_enter Try.func6, Try.ntmps6
  go_wp2_with fail
  refine (num_nil _).mono ?_
  rintro e w' ⟨rfl, rfl⟩
  have hr0 : RD (w.alloc (.cells #[.slice none 0 0, .bool false] 48)) w.heap.size (fun _ => False) none := ⟨_, KB.new _ _ _, BS.nil _ _, fun h => h⟩
  have b0 : Below w.heap.size w (w.alloc (.cells #[.slice none 0 0, .bool false] 48)) := (Below.refl _ _).alloc (Nat.le_refl _) _
  have z0 := b0.size
  go_wp2_with fail
  refine (take_nil n _).mono ?_
  rintro e w1 ⟨v1, rfl, ho1, hb1⟩
  obtain ⟨A1, c1, rfl, _⟩ := (own_BS ho1).form
  have hr1 := hr0.below hb1
  have b1 := b0.trans (hb1.mono z0)
  have z1 := b1.size
  clear hr0 b0 z0 hb1 ho1
  go_wp2_with fail
  refine (ok_nil _).mono ?_
  rintro e w' ⟨rfl, rfl⟩
  go_wp2_with fail
  refine (left_nil _).mono ?_
  rintro e w' ⟨rfl, rfl⟩
  go_wp2_with fail
  have N2 := int_some _ _ none _ hr1
  have e2 : wrap64 (((numOf none).2 : Nat) : Int) = 0 := by
    show wrap64 ((0 : Nat) : Int) = 0
    exact IntWalk.wrap64_in _ (by omega)
  rw [e2] at N2
  refine N2.mono ?_
  clear N2 e2
  rintro e w2 ⟨rfl, hr2, hg2⟩
  have b2 := b1.trans (below_of_grown' hg2 (Nat.le_refl _) z1)
  have z2 := b2.size
  clear hr1 hg2
  go_wp2_with fail
  have N3 := count_some n hn _ _ none _ hr2
  rw [cnt_none] at N3
  refine N3.mono ?_
  clear N3
  rintro e w3 ⟨rfl, hr3, hg3⟩
  have b3 := b2.trans (below_of_grown' hg3 (Nat.le_refl _) z2)
  have z3 := b3.size
  clear hr2 hg3
  go_wp2_with fail
  have N4 := text_some n hn _ _ none _ hr3 (by simp)
  rw [txt_none] at N4
  refine N4.mono ?_
  clear N4
  rintro e w4 ⟨v4, rfl, hr4, ho4, hg4⟩
  obtain ⟨A4, c4, rfl, _⟩ := (own_BS ho4).form
  have b4 := b3.trans (below_of_grown' hg4 (Nat.le_refl _) z3)
  have z4 := b4.size
  clear hr3 hg4 ho4
  go_wp2_with fail
  refine (ok_rd _ _ _ _ hr4).mono ?_
  rintro e w' ⟨rfl, rfl⟩
  go_wp2_with fail
  refine (live_any _).mono ?_
  rintro e w5 ⟨rfl, hb5⟩
  have b5 := b4.trans (hb5.mono z4)
  go_wp2
  go_ret
  exact ⟨rfl, b5⟩

theorem tlvNil_law {H : Type} (enc : TypeId × Value → H) (W : World) (base : Nat) (v0 : Value) (d0 : DataW H) (p0 : List MemPlace)
    (ok0 : Value.okWide Try.prog W .any base 3 v0) (h0 : DataW.Trod enc Try.prog W 0 (fun _ => true) true 3 v0 d0 p0) :
    Calls Try.prog 6 #[v0] W fun e W' => e = .returned (.bool true) ∧ Below W.heap.size W W' := by
  obtain ⟨n, rfl, rfl, rfl, w0⟩ := open_int Try.underlying3 ok0 h0
  have hx : -9223372036854775808 ≤ n ∧ n ≤ 9223372036854775807 := by simpa [Lit.wf, IntKind.min, IntKind.max, IntKind.signed, IntKind.bits] using w0
  exact tlvNil_any n hx.2 W
end Go.Proofs.Ytcmklfknhlfenaa
