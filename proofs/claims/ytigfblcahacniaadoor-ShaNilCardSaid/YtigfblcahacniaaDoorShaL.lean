/-
  The examples of the page of layer 2 ('live' of the statements of layer 2): they are as the page says. No condition but the table's.
-/
import Derived.Test.YtigfblcahacniaaDoorShaO
import Derived.Test.YtigfblcahacniaaDoorShaV
import Derived.Lib.SlBytesConst
namespace Go.Proofs.YtigfblcahacniaaDoor
open Go.RowKit
set_option linter.unusedVariables false

theorem hex_nil : hexL (sumB (catB [])) = [101, 51, 98, 48, 99, 52, 52, 50, 57, 56, 102, 99, 49, 99, 49, 52, 57, 97, 102, 98, 102, 52, 99, 56, 57, 57, 54, 102, 98, 57, 50, 52, 50, 55, 97, 101, 52, 49, 101, 52, 54, 52, 57, 98, 57, 51, 52, 99, 97, 52, 57, 53, 57, 57, 49, 98, 55, 56, 53, 50, 98, 56, 53, 53] := by
  rw [show catB [] = [] from rfl, sum_nil]; decide +kernel
theorem hex_abc : hexL (sumB (catB [[97, 98, 99]])) = [98, 97, 55, 56, 49, 54, 98, 102, 56, 102, 48, 49, 99, 102, 101, 97, 52, 49, 52, 49, 52, 48, 100, 101, 53, 100, 97, 101, 50, 50, 50, 51, 98, 48, 48, 51, 54, 49, 97, 51, 57, 54, 49, 55, 55, 97, 57, 99, 98, 52, 49, 48, 102, 102, 54, 49, 102, 50, 48, 48, 49, 53, 97, 100] := by
  rw [show catB [[97, 98, 99]] = [97, 98, 99] from rfl, sum_abc]; decide +kernel

set_option maxRecDepth 100000 in
set_option maxHeartbeats 1000000 in
theorem live_any (w : World) (ht : Tab w) :
    Calls Tryd.prog 6 #[] w fun e w' => e = .returned (.bool true) ∧ Below w.heap.size w w' := by
  have hcv := fun (w : World) (C : Array Value) (n c : Nat) => Lib.run_convert_bytes_const (P := Tryd.prog) w 22 5 C n c Tryd.underlying22 Tryd.underlying5
  have N1 := of_any (.slice none 0 0) [] w (LS.nil _ _) ht (by simp [catB])
  have HN1 := Lib.hid N1
  clear N1
  go_enter Tryd.func6, Tryd.ntmps6
  go_wp2_with fail
  refine HN1.out.mono ?_
  rintro e w1 ⟨rfl, b1⟩
  have t1 := ht.below b1
  have z1 := b1.size
  have N2 := hex_any (sumB (catB [])) (sumB_length _) w1
  rw [hex_nil] at N2
  have HN2 := Lib.hid N2
  clear N2 HN1
  go_wp2_with fail
  refine HN2.out.mono ?_
  rintro e w2 ⟨rfl, b2⟩
  have t2 := t1.below b2
  have B2 := b1.trans (b2.mono z1)
  have z2 := B2.size
  clear HN2 t1 b1 b2
  go_wp2_with fail
  have hb3 : BS (w2.alloc (.cells #[.int .u8 97, .int .u8 98, .int .u8 99] 5 (3, 4))) (fun b => w2.heap.size ≤ b) (.slice (some ⟨w2.heap.size, 0, none⟩) 3 3) [97, 98, 99] := BS.lit w2 5 [97, 98, 99] (by simp [maxLen]) (3, 4)
  have B3 := (B2.alloc z2 (.cells #[.int .u8 97, .int .u8 98, .int .u8 99] 5 (3, 4)))
  have t3 := t2.below ((Below.refl w2.heap.size w2).alloc (Nat.le_refl _) (.cells #[.int .u8 97, .int .u8 98, .int .u8 99] 5 (3, 4)))
  have hl3 := (LS.one (t := 22) hb3).lt
  have B4 := B3.alloc B3.size (.cells #[.slice (some ⟨w2.heap.size, 0, none⟩) 3 3] 22)
  have t4 := t3.below ((Below.refl _ _).alloc (Nat.le_refl _) (.cells #[.slice (some ⟨w2.heap.size, 0, none⟩) 3 3] 22))
  have N4 := of_any _ [[97, 98, 99]] _ hl3 t4 (by simp [catB])
  simp only [World.size_alloc] at N4
  have HN4 := Lib.hid N4
  clear N4 hl3 hb3 B3 t3
  have z4 := B4.size
  refine HN4.out.mono ?_
  rintro e w5 ⟨rfl, b5⟩
  have B5 := B4.trans (b5.mono (by simpa using z4))
  have z5 := B5.size
  have N6 := hex_any (sumB (catB [[97, 98, 99]])) (sumB_length _) w5
  rw [hex_abc] at N6
  have HN6 := Lib.hid N6
  clear N6 HN4 B4 b5 t4 z4
  go_wp2_with fail
  refine HN6.out.mono ?_
  rintro e w6 ⟨rfl, b6⟩
  have B6 := B5.trans (b6.mono z5)
  go_wp2
  go_ret
  exact ⟨rfl, B6⟩
end Go.Proofs.YtigfblcahacniaaDoor
