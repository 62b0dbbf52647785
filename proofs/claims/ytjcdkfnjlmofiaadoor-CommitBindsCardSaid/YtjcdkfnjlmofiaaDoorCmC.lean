/-
  The program's Link of layer 7: its contract over the loaded program.
  No condition but the table's.
-/
import Derived.Test.YtjcdkfnjlmofiaaDoorCmB
namespace Go.Proofs.YtjcdkfnjlmofiaaDoor
open Go.RowKit
set_option linter.unusedVariables false

theorem LS.three' {w : World} {S1 S2 S3 : Nat → Prop} {x y z : Value} {l m n : List UInt8} {t : TypeId} (hx : BS w S1 x l) (hy : BS w S2 y m) (hz : BS w S3 z n) :
    LS (w.alloc (.cells #[x, y, z] t)) (fun b => b < (w.alloc (.cells #[x, y, z] t)).heap.size) (.slice (some ⟨w.heap.size, 0, none⟩) 3 3) [l, m, n] :=
  (LS.three (t := t) (hx.lt.mono (S' := fun b => b < w.heap.size) fun _ h => h.2) (hy.lt.mono fun _ h => h.2) (hz.lt.mono fun _ h => h.2)).lt

attribute [local go_sem ↓] store32
attribute [local go_sem] ptrBlock_mk aggOf_mk

set_option maxRecDepth 100000 in
set_option maxHeartbeats 2000000 in
/-- Link. -/
theorem clink_any (i : Int) (p c : List UInt8) (w : World) (hp : p.length = 32) (hc : c.length = 32) (ht : Tab w) :
    Calls Tryd.prog 10 #[.int .i64 i, .agg (p.map bv).toArray, .agg (c.map bv).toArray] w fun e w' => Sum32 w e w' (linkB i p c) := by
  have HU : Hid (((sumB (linkB i p c)).map bv).length = 32) := by show _ = _; rw [List.length_map, sumB_length]
  have hu1 := bytes_one' (sumB (linkB i p c))
  have hint := fun (W : World) => int_any i W
  have hsum := fun (v : Value) (W : World) (h : LS W (fun b => b < W.heap.size) v [numb (u64 i), p, c]) (ht : Tab W) => csum_any 2 v [numb (u64 i), p, c] W h (by simp) (by simp) ht (by have := numb_len (u64 i); simp [catB]; omega)
  rw [show (2 : UInt8) :: catB [numb (u64 i), p, c] = linkB i p c from by simp [catB, linkB]] at hsum
  unfold Sum32 at hsum
  obtain ⟨ss, hss⟩ : ∃ ss, ss = (sumB (linkB i p c)).map bv := ⟨_, rfl⟩
  rw [← hss] at hsum HU hu1
  have HSS := Lib.hid hss
  have HSUM := Lib.hid hsum
  have HINT := Lib.hid hint
  have hpl : Plain ss.toArray 32 := ⟨by simpa using HU.out, all_oneCell_toArray hu1⟩
  clear hss hsum hint
  generalize numb (u64 i) = N at *
  have hpl2 : (p.map bv).length = 32 := by rw [List.length_map]; exact hp
  have hcl : (c.map bv).length = 32 := by rw [List.length_map]; exact hc
  have KP0 : KB ((w.alloc (.cells (p.map bv).toArray 24)).alloc (.cells (c.map bv).toArray 24)) w.heap.size 24 (p.map bv).toArray := (KB.new _ _ _).alloc _
  have KC0 : KB ((w.alloc (.cells (p.map bv).toArray 24)).alloc (.cells (c.map bv).toArray 24)) (w.heap.size + 1) 24 (c.map bv).toArray := by
    have := KB.new (w.alloc (.cells (p.map bv).toArray 24)) 24 (c.map bv).toArray
    rw [World.size_alloc] at this
    exact this
  have KZ0 : KB (((w.alloc (.cells (p.map bv).toArray 24)).alloc (.cells (c.map bv).toArray 24)).alloc (.cells (z32.map bv).toArray 24)) (w.heap.size + 1 + 1) 24 (z32.map bv).toArray := by
    have := KB.new ((w.alloc (.cells (p.map bv).toArray 24)).alloc (.cells (c.map bv).toArray 24)) 24 (z32.map bv).toArray
    simp only [World.size_alloc] at this
    exact this
  have KP1 := KP0.alloc (.cells (z32.map bv).toArray 24)
  have KC1 := KC0.alloc (.cells (z32.map bv).toArray 24)
  have B0 : Below w.heap.size w (((w.alloc (.cells (p.map bv).toArray 24)).alloc (.cells (c.map bv).toArray 24)).alloc (.cells (z32.map bv).toArray 24)) := (((Below.refl _ _).alloc (Nat.le_refl _) _).alloc (by simp) _).alloc (by simp; omega) _
  clear KP0 KC0
  go_enter Tryd.func10, Tryd.ntmps10
  go_wp2_with fail
  rw [row32]
  generalize ((w.alloc (.cells (p.map bv).toArray 24)).alloc (.cells (c.map bv).toArray 24)).alloc (.cells (z32.map bv).toArray 24) = w1 at *
  go_region_law ((first
    | (go_simp; go_at_call 19; refine (HINT.out _).mono ?_; rintro e w4 ⟨v4, rfl, how4, b4⟩; have b4' : Below w1.heap.size w1 w4 := (Below_drawn (Below.refl _ _) 1).trans b4; have kp4 := (KP1.below b4' KP1.lt).bs hp (by simp [maxLen]); have kc4 := (KC1.below b4' KC1.lt).bs hc (by simp [maxLen]); have kz4 := KZ0.below b4' KZ0.lt; have n4 := own_BS how4; obtain ⟨A4, c4, rfl, _⟩ := n4.form; have B4 := B0.trans (b4'.mono B0.size))
    | (go_simp; go_at_call 16; have L5 := LS.three' (t := 23) n4 kp4 kc4; have kz5 := kz4.alloc (.cells #[.slice A4 N.length c4, .slice (some ⟨w.heap.size, 0, none⟩) 32 32, .slice (some ⟨w.heap.size + 1, 0, none⟩) 32 32] 23); have B5 := B4.alloc B4.size (.cells #[.slice A4 N.length c4, .slice (some ⟨w.heap.size, 0, none⟩) 32 32, .slice (some ⟨w.heap.size + 1, 0, none⟩) 32 32] 23); refine (HSUM.out _ _ L5 (ht.below B5)).mono ?_; rintro e w6 ⟨rfl, b6⟩; have kz6 := kz5.below b6 kz5.lt; have fz6 := kz6.full (n := 32) rfl; have B6 := B5.trans (b6.mono B5.size))))
  all_goals
    have kz := kz6.setAll (vs := ss.toArray) hpl.1
    have gz := grown_setAll w6 (w.heap.size + 1 + 1) ss.toArray
    generalize setAll w6 (w.heap.size + 1 + 1) ss.toArray = Wz at *
    go_wp2_with fail
    refine bodyPost_ret (results_cell_row (P := Tryd.prog) rfl _ Wz (w.heap.size + 1 + 1) _ ss.toArray (0, 0) _ rfl kz Tryd.underlying24 rfl (by rw [show ss.toArray.size = 32 from by simpa using HU.out]; kernel_rfl)) rfl ⟨by rw [HSS.out], B6.trans (below_of_grown' gz (by omega) B6.size)⟩
end Go.Proofs.YtjcdkfnjlmofiaaDoor
