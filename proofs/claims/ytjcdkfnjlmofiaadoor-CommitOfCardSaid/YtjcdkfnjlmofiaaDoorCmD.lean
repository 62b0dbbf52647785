/-
  The document's Of and Link of layer 7: each one's contract over the loaded program.
  No condition but lengths that a process can hold.
-/
import Derived.Test.YtjcdkfnjlmofiaaDoorCmA
import Derived.Test.YtjcdkfnjlmofiaaDoorShaO
namespace Go.Proofs.YtjcdkfnjlmofiaaDoor
open Go.RowKit
set_option linter.unusedVariables false

set_option maxRecDepth 100000 in
set_option maxHeartbeats 1000000 in
theorem rcof_any (S : Nat → Prop) (v : Value) (s : Nat) (l : List UInt8) (w : World) (h : BS w S v l) (hs : s < 18446744073709551616) (hl : l.length ≤ 100000000000) :
    Calls Tryd.prog 8 #[.int .u64 s, v] w fun e w' => Sum32 w e w' (comB s l) := by
  have B0 : Below w.heap.size w (w.alloc (.cells (z32.map bv).toArray 24)) := (Below.refl _ _).alloc (Nat.le_refl _) _
  have k0 : KB (w.alloc (.cells (z32.map bv).toArray 24)) w.heap.size 24 (z32.map bv).toArray := KB.new _ _ _
  have h0 := h.lt.below' B0
  have HU : Hid (((sumB (comB s l)).map bv).length = 32) := by show _ = _; rw [List.length_map, sumB_length]
  have hu1 := bytes_one' (sumB (comB s l))
  have htex := rtextc_any _ v s l _ h0 hs hl
  have hsum := fun (S : Nat → Prop) (v : Value) (W : World) (h : BS W S v (comB s l)) => rof_any S v (comB s l) W h (by have := numb_len s; have := texb_len l; simp [comB]; omega)
  obtain ⟨ss, hss⟩ : ∃ ss, ss = (sumB (comB s l)).map bv := ⟨_, rfl⟩
  rw [← hss] at hsum HU hu1
  have HSS := Lib.hid hss
  have HSUM := Lib.hid hsum
  clear hss hsum
  generalize comB s l = T at *
  go_enter Tryd.func8, Tryd.ntmps8
  go_wp2_with fail
  rw [row32]
  refine htex.mono ?_
  rintro e w1 ⟨v1, rfl, how1, b1⟩
  have k1 := k0.below b1 k0.lt
  have B1 := B0.trans (b1.mono B0.size)
  have n1 := own_BS how1
  clear k0 h0 B0 b1 how1 htex
  go_wp2_with fail
  refine (HSUM.out _ _ _ n1).mono ?_
  rintro e w4 ⟨rfl, b4⟩
  have k4 := k1.below b4 k1.lt
  have B4 := B1.trans (b4.mono B1.size)
  go_wp2_with (refine wpList_store_kb rfl 24 (.tmp 4) (.tmp 8) rfl w.heap.size ss rfl rfl _ (z32.map bv) k4 32 (by kernel_rfl) rfl HU.out hu1 ?_; intro Wz kz gz)
  refine bodyPost_ret (results_cell_row (P := Tryd.prog) rfl _ Wz w.heap.size _ ss.toArray (0, 0) _ rfl kz Tryd.underlying24 rfl (by rw [show ss.toArray.size = 32 from by simpa using HU.out]; kernel_rfl)) rfl ⟨by rw [HSS.out], B4.trans (below_of_grown' gz (Nat.le_refl _) B4.size)⟩

set_option maxRecDepth 100000 in
set_option maxHeartbeats 1000000 in
theorem rclink_any (i : Int) (p c : List UInt8) (w : World) (hp : p.length = 32) (hc : c.length = 32) :
    Calls Tryd.prog 11 #[.int .i64 i, .agg (p.map bv).toArray, .agg (c.map bv).toArray] w fun e w' => Sum32 w e w' (linkB i p c) := by
  have KP0 : KB ((w.alloc (.cells (p.map bv).toArray 24)).alloc (.cells (c.map bv).toArray 24)) w.heap.size 24 (p.map bv).toArray := (KB.new _ _ _).alloc _
  have KC0 : KB ((w.alloc (.cells (p.map bv).toArray 24)).alloc (.cells (c.map bv).toArray 24)) (w.heap.size + 1) 24 (c.map bv).toArray := by
    have := KB.new (w.alloc (.cells (p.map bv).toArray 24)) 24 (c.map bv).toArray
    rw [World.size_alloc] at this
    exact this
  have KZ0 : KB (((w.alloc (.cells (p.map bv).toArray 24)).alloc (.cells (c.map bv).toArray 24)).alloc (.cells (z32.map bv).toArray 24)) (w.heap.size + 1 + 1) 24 (z32.map bv).toArray := by
    have := KB.new ((w.alloc (.cells (p.map bv).toArray 24)).alloc (.cells (c.map bv).toArray 24)) 24 (z32.map bv).toArray
    simp only [World.size_alloc] at this
    exact this
  have KP1 := KP0.alloc (.cells (z32.map bv).toArray 24)
  have KC1 := KC0.alloc (.cells (z32.map bv).toArray 24)
  have B0 : Below w.heap.size w (((w.alloc (.cells (p.map bv).toArray 24)).alloc (.cells (c.map bv).toArray 24)).alloc (.cells (z32.map bv).toArray 24)) := (((Below.refl _ _).alloc (Nat.le_refl _) _).alloc (by simp) _).alloc (by simp; omega) _
  have HU : Hid (((sumB (linkB i p c)).map bv).length = 32) := by show _ = _; rw [List.length_map, sumB_length]
  have hu1 := bytes_one' (sumB (linkB i p c))
  have htex := fun (W : World) => rlinktext_any i p c W hp hc
  have hsum := fun (S : Nat → Prop) (v : Value) (W : World) (h : BS W S v (linkB i p c)) => rof_any S v (linkB i p c) W h (by have := numb_len (u64 i); simp [linkB]; omega)
  obtain ⟨ss, hss⟩ : ∃ ss, ss = (sumB (linkB i p c)).map bv := ⟨_, rfl⟩
  rw [← hss] at hsum HU hu1
  have HSS := Lib.hid hss
  have HSUM := Lib.hid hsum
  clear hss hsum KP0 KC0
  generalize linkB i p c = T at *
  have hpl : (p.map bv).length = 32 := by rw [List.length_map]; exact hp
  have hcl : (c.map bv).length = 32 := by rw [List.length_map]; exact hc
  generalize p.map bv = ps at *
  generalize c.map bv = cs at *
  go_enter Tryd.func11, Tryd.ntmps11
  go_wp2_with (first
    | (refine wpList_load_kb rfl 24 (.tmp 4) rfl w.heap.size rfl _ ps (by rw [row32]; exact KP1) _ Tryd.underlying24 rfl 32 (by kernel_rfl) hpl ?_)
    | (refine wpList_load_kb rfl 24 (.tmp 5) rfl (w.heap.size + 1) rfl _ cs (by rw [row32]; exact KC1) _ Tryd.underlying24 rfl 32 (by kernel_rfl) hcl ?_))
  rw [row32]
  refine (htex _).mono ?_
  rintro e w1 ⟨v1, rfl, how1, b1⟩
  have k1 := KZ0.below b1 KZ0.lt
  have B1 := B0.trans (b1.mono B0.size)
  have n1 := own_BS how1
  clear KZ0 KP1 KC1 B0 b1 how1 htex
  go_wp2_with fail
  refine (HSUM.out _ _ _ n1).mono ?_
  rintro e w4 ⟨rfl, b4⟩
  have k4 := k1.below b4 k1.lt
  have B4 := B1.trans (b4.mono B1.size)
  go_wp2_with (refine wpList_store_kb rfl 24 (.tmp 6) (.tmp 11) rfl (w.heap.size + 1 + 1) ss rfl rfl _ (z32.map bv) k4 32 (by kernel_rfl) rfl HU.out hu1 ?_; intro Wz kz gz)
  refine bodyPost_ret (results_cell_row (P := Tryd.prog) rfl _ Wz (w.heap.size + 1 + 1) _ ss.toArray (0, 0) _ rfl kz Tryd.underlying24 rfl (by rw [show ss.toArray.size = 32 from by simpa using HU.out]; kernel_rfl)) rfl ⟨by rw [HSS.out], B4.trans (below_of_grown' gz (by omega) B4.size)⟩
end Go.Proofs.YtjcdkfnjlmofiaaDoor
