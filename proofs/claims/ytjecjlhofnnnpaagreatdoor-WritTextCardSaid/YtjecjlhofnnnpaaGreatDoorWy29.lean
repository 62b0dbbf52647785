/-
  WvL: num and live: the page's example (layer 21), over the loaded program. No condition but that the library's table and errors are as laid.
-/
import Derived.Test.YtjecjlhofnnnpaaGreatDoorWy24
import Derived.Test.YtjecjlhofnnnpaaGreatDoorWy28
set_option linter.unusedVariables false
set_option maxRecDepth 100000
namespace Go.Proofs.YtjecjlhofnnnpaaGreatDoor
section
open Go.RowKit
theorem wlnum_any (e : Int) (he : I64 e) (w : World) : Calls Tryz.prog 9 #[.int .i64 e] w fun r w' => r = .returned (.int .i64 e) ∧ w' = w := by
  have W1 : wrap64 e = e := IntWalk.wrap64_in _ (by unfold I64 at he; omega)
  go_enter Tryz.func9, Tryz.ntmps9
  go_wp2_with fail
  go_ret
  exact ⟨rfl, rfl⟩
def exW : List UInt8 := [99, 97, 115, 101, 32, 97, 32, 97, 110, 100, 32, 110, 111, 116, 32, 40, 32, 115, 117, 98, 106, 101, 99, 116, 32, 98, 32, 111, 114, 32, 116, 105, 109, 101, 32, 53, 45, 57, 32, 41]
theorem exW_ok : (parseSc exW).2 = 0 := by decide +kernel
theorem exW_text : textSc 85 (parseSc exW).1 = (exW, 0) := by decide +kernel
theorem exW_op : opS 85 (parseSc exW).1 = 6 := by decide +kernel
def Yes21 (w : World) (e : Ending) (w' : World) : Prop := e = .returned (.bool true) ∧ Below w.heap.size w w'
set_option maxHeartbeats 4000000 in
theorem live21_any (w : World) (hT : Tabs w) : Calls Tryz.prog 6 #[] w (Yes21 w) := by
  have hp := pparse_any exW (by decide) w hT
  have HTX : Hid (∀ S W v, Below w.heap.size w W → (∀ b, S b → b < W.heap.size) → ZV W S 85 v (parseSc exW).1 → Calls Tryz.prog 7 #[v] W fun e w' => e = .returned (.tuple #[strV exW, .int .i64 0]) ∧ Below W.heap.size W w') := fun S W v hb hS hv => by
    have := pText_any S 85 (parseSc exW).1 v W hS (hT.below hb).1 hv
    rw [exW_text] at this
    exact this
  have HOP := Lib.hid exW_op
  unfold ParseZ at hp
  rw [exW_ok] at hp
  generalize (parseSc exW).1 = X at *
  have eex : strV exW = .string ⟨#[99, 97, 115, 101, 32, 97, 32, 97, 110, 100, 32, 110, 111, 116, 32, 40, 32, 115, 117, 98, 106, 101, 99, 116, 32, 98, 32, 111, 114, 32, 116, 105, 109, 101, 32, 53, 45, 57, 32, 41]⟩ := rfl
  rw [eex] at hp HTX
  have HL := Lib.hid (wlnum_any 0 (by unfold I64; omega))
  clear hT eex
  go_enter Tryz.func6, Tryz.ntmps6
  go_wp2_with fail
  refine hp.mono ?_
  rintro e w1 ⟨v1, rfl, z1, b1⟩
  have B1 := b1
  obtain ⟨i0, l1, i2, i3, X4, n4, z4, rfl⟩ := z1.form
  have e0 := z1.op
  rw [HOP.out] at e0
  injection e0 with _ e0
  subst e0
  have z2 := z1.alloc (.cells #[.int .i64 6, strV l1, .int .i64 i2, .int .i64 i3, .slice X4 n4 z4] 24)
  have k1 := KB.new w1 24 #[.int .i64 6, strV l1, .int .i64 i2, .int .i64 i3, .slice X4 n4 z4]
  have B2 := B1.alloc B1.size (.cells #[.int .i64 6, strV l1, .int .i64 i2, .int .i64 i3, .slice X4 n4 z4] 24)
  have ht := HTX.out _ _ _ B2 (fun b hb => by have := hb.2; simp; omega) z2
  unfold strV at *
  generalize (⟨l1.toArray⟩ : ByteArray) = s at *
  clear hp z1 z2 b1 B1 HTX HOP
  go_wp2_with fail
  refine ht.mono ?_
  rintro e w2 ⟨rfl, b2⟩
  have k2 := k1.below b2 k1.lt
  have B3 := B2.trans (b2.mono B2.size)
  have q0 : w2.cell? ⟨w1.heap.size, 0, none⟩ = some (.int .i64 6) := k2.cell 0
  have hl := HL.out w2
  clear ht k1 b2 B2
  go_wp2_with (go_at_call 9; refine hl.mono ?_; rintro e w' ⟨rfl, rfl⟩)
  go_ret
  exact ⟨rfl, B3⟩
end
end Go.Proofs.YtjecjlhofnnnpaaGreatDoor
