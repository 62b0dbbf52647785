/-
  Of: its contract over the loaded program. No condition but the worlds' shapes that it names (the table roots among them).
-/
import Derived.Test.YtjcdkfnjlmofiaaDoorShaG
namespace Go.Proofs.YtjcdkfnjlmofiaaDoor
open Go.RowKit
set_option linter.unusedVariables false

set_option maxRecDepth 100000 in
set_option maxHeartbeats 1000000 in
theorem of_any (v : Value) (ls : List (List UInt8)) (w : World) (h : LS w (fun b => b < w.heap.size) v ls) (ht : Tab w) (hlen : (catB ls).length < 100000000000000000) :
    Calls Tryd.prog 24 #[v] w fun e w' => e = .returned (.agg ((sumB (catB ls)).map bv).toArray) ∧ Below w.heap.size w w' := by
  obtain ⟨A, c, rfl, hc, hm⟩ := h.form
  have hl63 : ls.length ≤ 9223372036854775807 := by unfold maxLen at hm; omega
  go_enter Tryd.func24, Tryd.ntmps24
  go_wp2_with fail
  rw [row32]
  have B0 : Below w.heap.size w (w.alloc (.cells (z32.map bv).toArray 24)) := (Below.refl _ _).alloc (Nat.le_refl _) _
  have k0 : KB (w.alloc (.cells (z32.map bv).toArray 24)) w.heap.size 24 (z32.map bv).toArray := KB.new _ _ _
  generalize w.alloc (.cells (z32.map bv).toArray 24) = W0 at *
  refine (hnew_any _).mono ?_
  rintro e W1 ⟨rfl, hs1, b1⟩
  have k1 := k0.below b1 k0.lt
  have B1 := B0.trans (b1.mono B0.size)
  have h1 := h.below' B1
  have t1 := ht.below B1
  have z0 := k0.lt
  have z1 := k1.lt
  generalize W0.heap.size = g at *
  clear k0 B0 b1 h ht
  go_wp2
  go_loopw [9] (fun i wr => ∃ k : Nat, k ≤ ls.length ∧ i = .int .i64 k ∧ HS wr g (catB (ls.take k)) ∧ W1.grownBy wr (some g)) (fun i _ => ls.length - (intOf i).toNat)
  case atStart => exact ⟨0, by omega, rfl, hs1, World.grownBy.refl _ _⟩
  case round =>
    obtain ⟨k, hk, rfl, hsk, gk⟩ := hrel
    have tk := t1.grown gk (by omega)
    by_cases hlt : k < ls.length
    · have hl := h1.keep gk.size (fun b hb hlt => gk.block b hlt (by simp; omega))
      obtain ⟨b, o, rfl, _, _, hcell⟩ := hl.at_ (by omega)
      obtain ⟨A', c', hx, hbk⟩ := hcell k ls[k] (List.getElem?_eq_getElem hlt)
      have hcat := catB_get_le ls k hlt
      have HC := Lib.hid (catB_take_succ ls k hlt)
      have hki : (k : Int) < ls.length := by omega
      generalize ls[k] = p at *
      clear hcell hl
      go_wp2_with fail
      refine (write_any _ _ p g (catB (ls.take k)) _ hsk hbk (by omega) tk (by omega) (by omega)).mono ?_
      rintro e W2 ⟨rfl, hs2, g2⟩
      go_wp2
      go_roundw
      case rel => exact ⟨k + 1, by omega, by go_num, by rw [HC.out]; exact hs2, grown_trans gk g2⟩
      case measure => simp [intOf]; omega
    · obtain rfl : k = ls.length := by omega
      rw [List.take_length] at hsk
      have k9 := k1.grown gk (by simp; omega)
      have B9 := B1.trans (below_of_grown' gk (by omega) B1.size)
      have HU : Hid (((sumB (catB ls)).map bv).length = 32) := by show _ = _; rw [List.length_map, sumB_length]
      have hu1 := bytes_one' (sumB (catB ls))
      have hsum := sum_any g (catB ls) wr hsk tk (by omega)
      generalize hss : (sumB (catB ls)).map bv = ss at *
      have HSS := Lib.hid hss
      have HSUM := Lib.hid hsum
      clear hss gk hsum
      go_wp2_with fail
      refine HSUM.out.mono ?_
      rintro e W3 ⟨rfl, b3⟩
      have k10 := k9.below b3 k9.lt
      have B10 := B9.trans (b3.mono B9.size)
      go_wp2_with (refine wpList_store_kb rfl 24 (.tmp 2) (.tmp 18) rfl w.heap.size ss rfl rfl _ (z32.map bv) k10 32 (by kernel_rfl) rfl HU.out hu1 ?_; intro Wz kz gz)
      refine bodyPost_ret (results_cell_row (P := Tryd.prog) rfl _ Wz w.heap.size _ ss.toArray (0, 0) _ rfl kz Tryd.underlying24 rfl (by rw [show ss.toArray.size = 32 from by simpa using HU.out]; kernel_rfl)) rfl ⟨by rw [HSS.out], B10.trans (below_of_grown' gz (Nat.le_refl _) B10.size)⟩
end Go.Proofs.YtjcdkfnjlmofiaaDoor
