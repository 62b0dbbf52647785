/-
  The examples of the page of layer 1 ('live' of the statements of layer 1): they are as the page says. No condition.
-/
import Derived.Test.YtcmklfknhlfenaaRefA
import Derived.Laws.BytesArg
import Derived.Lib.SlBytesConst
namespace Go.Proofs.Ytcmklfknhlfenaa
open Go.RowKit

theorem numb_258 : numb 258 = [2, 1, 2] := by decide
theorem text_a : texb [97] = [1, 1, 97] := by decide
theorem read_258 : numOf (some [2, 1, 2, 1, 1, 97]) = (some [1, 1, 97], 258) := by decide
theorem read_a : txtOf 5 (some [1, 1, 97]) = (some [], [97]) := by decide

theorem live_any (w : World) :
    Calls Try.prog 7 #[] w fun e w' => e = .returned (.bool true) ∧ Below w.heap.size w w' := by
  have hcv := fun (w : World) (C : Array Value) (n c : Nat) => Lib.run_convert_bytes_const (P := Try.prog) w 25 5 C n c Try.underlying25 Try.underlying5
  have hl0 := BS.lit w 5 [2, 1, 2, 1, 1, 97] (by simp [maxLen])
  go_enter Try.func7, Try.ntmps7
  go_wp2_with fail
  refine (new_any _ _ _ _ hl0 (by simp)).mono ?_
  rintro e w1 ⟨g, rfl, hg1, hg2, hr1, hb1⟩
  have B1 : Below w.heap.size w w1 := ((Below.refl _ _).alloc (Nat.le_refl _) _).trans (hb1.mono (by simp))
  have hgw : w.heap.size ≤ g := by simp at hg1; omega
  generalize (fun b => (w.alloc (Obj.cells (List.map bv [2, 1, 2, 1, 1, 97]).toArray 5)).heap.size ≤ b ∧ b < g) = S at hr1
  clear hg1 hb1 hl0
  have z1 := B1.size
  go_wp2_with fail
  refine (num_any 258 _ (by omega)).mono ?_
  rintro e w2 ⟨v2, rfl, ho2, hb2⟩
  rw [numb_258] at ho2
  have x2 := own_BS ho2
  obtain ⟨A2, c2, rfl, _⟩ := x2.form
  have hr2 := hr1.below hb2
  have B2 : Below w.heap.size w w2 := B1.trans (hb2.mono z1)
  have z2 := B2.size
  clear hr1 ho2
  go_wp2_with fail
  refine (same_to _ _ _ _ [2, 1, 2] _ (x2.alloc _) (BS.lit w2 5 [2, 1, 2] (by simp [maxLen]))).mono ?_
  rintro e w3 ⟨rfl, hb3⟩
  have hb3' : Below w2.heap.size w2 w3 := ((Below.refl _ _).alloc (Nat.le_refl _) _).trans (hb3.mono (by simp))
  have hr3 := hr2.below hb3'
  have B3 := B2.trans (hb3'.mono z2)
  have z3 := B3.size
  clear hr2 x2 hb3 hb3'
  go_wp2_with fail
  refine (text_any _ _ [97] _ (BS.lit w3 5 [97] (by simp [maxLen]) (1, 2)) (by simp)).mono ?_
  rintro e w4 ⟨v4, rfl, ho4, hb4⟩
  rw [text_a] at ho4
  have x4 := own_BS ho4
  obtain ⟨A4, c4, rfl, _⟩ := x4.form
  have hb4' : Below w3.heap.size w3 w4 := ((Below.refl _ _).alloc (Nat.le_refl _) _).trans (hb4.mono (by simp))
  have hr4 := hr3.below hb4'
  have B4 := B3.trans (hb4'.mono z3)
  have z4 := B4.size
  clear hr3 ho4 hb4 hb4'
  go_wp2_with fail
  refine (same_to _ _ _ _ [1, 1, 97] _ (x4.alloc _) (BS.lit w4 5 [1, 1, 97] (by simp [maxLen]))).mono ?_
  rintro e w5 ⟨rfl, hb5⟩
  have hb5' : Below w4.heap.size w4 w5 := ((Below.refl _ _).alloc (Nat.le_refl _) _).trans (hb5.mono (by simp))
  have hr5 := hr4.below hb5'
  have B5 := B4.trans (hb5'.mono z4)
  have z5 := B5.size
  clear hr4 x4 hb5 hb5'
  go_wp2_with fail
  have N6 := num_some g S _ _ hr5
  rw [read_258] at N6
  refine N6.mono ?_
  clear N6
  rintro e w6 ⟨rfl, hr6, hg6⟩
  have B6 := B5.trans (below_of_grown' hg6 hgw z5)
  have z6 := B6.size
  clear hr5 hg6
  go_wp2_with fail
  have N7 := text_some 5 (by omega) g S _ _ hr6 (by simp)
  rw [read_a] at N7
  refine N7.mono ?_
  clear N7
  rintro e w7 ⟨v7, rfl, hr7, ho7, hg7⟩
  have B7 := B6.trans (below_of_grown' hg7 hgw z6)
  have z7 := B7.size
  have x7 := own_BS ho7
  obtain ⟨A7, c7, rfl, _⟩ := x7.form
  obtain ⟨b7, o7, rfl, _, _, h7⟩ := x7.at_ (by simp)
  have k7 : w7.cell? ⟨b7, o7, none⟩ = some (.int .u8 97) := h7 0 97 rfl
  have hcell : ∀ i, i < 1 → w7.cell? ⟨b7, o7 + i, none⟩ = some (.int .u8 (([97] : List Int).getD i 0)) := by
    intro i hi
    have h0 : i = 0 := by omega
    subst h0
    exact h7 0 97 rfl
  have hcs : (convert 25 9 (.slice (some ⟨b7, o7, none⟩) 1 c7)).run Try.prog w7 = .ok (.string (strOfNums [97])) w7 :=
    run_convert_bytes_arg (P := Try.prog) w7 25 5 Try.underlying25 Try.underlying5 b7 o7 1 c7 [97] rfl hcell 9 Try.underlying9
  have hst : strOfNums [97] = ⟨#[97]⟩ := by decide
  rw [hst] at hcs
  clear hcell hst
  clear h7 hr6 hg7 ho7
  go_wp2_with (first | (go_at_call 27; refine (ok_rd _ _ _ _ hr7).mono ?_; rintro e w' ⟨rfl, rfl⟩) | (go_at_call 28; refine (left_rd _ _ _ _ hr7).mono ?_; rintro e w' ⟨rfl, rfl⟩))
  go_ret
  exact ⟨rfl, B7⟩

end Go.Proofs.Ytcmklfknhlfenaa
