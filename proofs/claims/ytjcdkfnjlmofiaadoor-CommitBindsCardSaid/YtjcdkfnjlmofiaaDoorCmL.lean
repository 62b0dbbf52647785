/-
  The example of the page of layer 7 ('live' of the statements of layer 7): it is as the page says. No condition but the table's.
-/
import Derived.Test.YtjcdkfnjlmofiaaDoorCmB
import Derived.Test.YtjcdkfnjlmofiaaDoorCmD
namespace Go.Proofs.YtjcdkfnjlmofiaaDoor
open Go.RowKit
set_option linter.unusedVariables false

theorem com_nil : comB 0 [] = [1, 0, 0] := by decide +kernel

set_option maxRecDepth 100000 in
set_option maxHeartbeats 1000000 in
theorem clive_any (w : World) (ht : Tab w) :
    Calls Tryd.prog 6 #[] w fun e w' => e = .returned (.bool true) ∧ Below w.heap.size w w' := by
  have hof := fun (W : World) (ht : Tab W) => cof_any (fun _ => True) (.slice none 0 0) 0 [] W (BS.nil _ _) (by decide) (by decide) ht
  have hck := fun (W : World) (ht : Tab W) => ccheck_any (fun _ => True) (sumB (comB 0 [])) (.slice none 0 0) 0 [] W (sumB_length _) (BS.nil _ _) (by decide) (by decide) ht
  have hb := fun (W : World) => BS.lit W 5 [1, 0, 0] (by simp [maxLen])
  have hs := fun (W : World) => rof_any _ (.slice (some ⟨W.heap.size, 0, none⟩) 3 3) [1, 0, 0] _ (hb W) (by decide)
  rw [← com_nil] at hs
  have hsame := same32 (sumB (comB 0 [])) (sumB_length _)
  have hck1 : (sumB (comB 0 []) == sumB (comB 0 [])) = true := by simp
  rw [hck1] at hck
  unfold Sum32 at hof
  generalize (sumB (comB 0 [])).map bv = ss at *
  have HOF := Lib.hid hof
  have HCK := Lib.hid hck
  have HS := Lib.hid hs
  clear hof hck hs hb hck1
  go_enter Tryd.func6, Tryd.ntmps6
  go_wp2_with fail
  refine (HOF.out _ ht).mono ?_
  rintro e w1 ⟨rfl, b1⟩
  go_wp2_with fail
  have B2 := b1.alloc b1.size (.cells #[.int .u8 1, .int .u8 0, .int .u8 0] 5)
  refine (HS.out w1).mono ?_
  rintro e w3 ⟨rfl, b3⟩
  have B3 := B2.trans (b3.mono B2.size)
  clear B2 b3 b1
  go_wp2_with fail
  have B4 := B3.alloc B3.size (.cells #[.int .u8 1, .int .u8 0, .int .u8 0] 5)
  refine (HS.out w3).mono ?_
  rintro e w5 ⟨rfl, b5⟩
  have B5 := B4.trans (b5.mono B4.size)
  clear B3 B4 b5
  go_wp2_with fail
  refine (HCK.out _ (ht.below B5)).mono ?_
  rintro e w6 ⟨rfl, b6⟩
  go_wp2
  go_ret
  exact ⟨rfl, B5.trans (b6.mono B5.size)⟩
end Go.Proofs.YtjcdkfnjlmofiaaDoor
