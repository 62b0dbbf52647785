/-
  ShaG: The sum of a Hash: Sum: its contract over the loaded program. No condition but the worlds' shapes that each contract names (the table roots among them).
  ShaH: Of: its contract over the loaded program. No condition but the worlds' shapes that it names (the table roots among them).
-/
import Derived.Test.YtgoifhpinoodgaaDoorWo14

section
namespace Go.Proofs.YtgoifhpinoodgaaDoor
open Go.RowKit
set_option maxRecDepth 100000
set_option linter.unusedVariables false

/-- 32 bytes 0. -/
def z32 : List UInt8 := List.replicate 32 0
theorem row32 : (#[Value.int .u8 0, Value.int .u8 0, Value.int .u8 0, Value.int .u8 0, Value.int .u8 0, Value.int .u8 0, Value.int .u8 0, Value.int .u8 0, Value.int .u8 0, Value.int .u8 0, Value.int .u8 0, Value.int .u8 0, Value.int .u8 0, Value.int .u8 0, Value.int .u8 0, Value.int .u8 0, Value.int .u8 0, Value.int .u8 0, Value.int .u8 0, Value.int .u8 0, Value.int .u8 0, Value.int .u8 0, Value.int .u8 0, Value.int .u8 0, Value.int .u8 0, Value.int .u8 0, Value.int .u8 0, Value.int .u8 0, Value.int .u8 0, Value.int .u8 0, Value.int .u8 0, Value.int .u8 0] : Array Value) = (z32.map bv).toArray := rfl
theorem z32_length : (z32.map bv).length = 32 := rfl
theorem bytes_one' (l : List UInt8) : ∀ u ∈ l.map bv, u.oneCell' = true := bytes_one l

set_option maxRecDepth 100000 in
theorem sum_none (w : World) :
    Calls Tryd.prog 84 #[.pointer none] w fun e w' => e = .returned (.agg (z32.map bv).toArray) ∧ Below w.heap.size w w' := by
  go_enter Tryd.func84, Tryd.ntmps84
  go_wp2_with (first
    | (refine wpList_load_kb rfl 71 (.tmp 3) rfl (w.heap.size + 1) rfl _ (z32.map bv) (by rw [row32]; simpa using KB.new (w.alloc (.cells (z32.map bv).toArray 71)) 71 (z32.map bv).toArray) _ Tryd.underlying71 rfl 32 (by kernel_rfl) rfl ?_)
    | (refine wpList_store_kb rfl 71 (.tmp 2) (.tmp 16) rfl w.heap.size (z32.map bv) rfl rfl 71 (z32.map bv) (by rw [row32]; exact (KB.new _ _ _).alloc _) 32 (by kernel_rfl) rfl rfl (bytes_one' _) ?_; intro W2 k2 g2))
  refine bodyPost_ret (results_cell_row (P := Tryd.prog) rfl _ W2 w.heap.size _ (z32.map bv).toArray (0, 0) _ rfl k2 Tryd.underlying71 rfl (by rw [show (z32.map bv).toArray.size = 32 from rfl]; kernel_rfl)) rfl ⟨rfl, (((Below.refl _ _).alloc (Nat.le_refl _) _).alloc (by simp) _).grown g2 (by simp; omega) (by simp)⟩

set_option maxRecDepth 100000 in
theorem sum_raw (g : Nat) (w : World) (h : w.cell? ⟨g, 73, none⟩ = some (.bool false)) :
    Calls Tryd.prog 84 #[.pointer (some ⟨g, 0, none⟩)] w fun e w' => e = .returned (.agg (z32.map bv).toArray) ∧ Below w.heap.size w w' := by
  have hb := World.block_lt_of_cell? w _ h
  have h2 : ((w.alloc (.cells (z32.map bv).toArray 71)).alloc (.cells (z32.map bv).toArray 71)).cell? ⟨g, 73, none⟩ = some (.bool false) := by
    rw [World.cell?_alloc_lt _ _ _ (by simp; simp at hb; omega), World.cell?_alloc_lt _ _ _ hb]; exact h
  rw [← row32] at h2
  go_enter Tryd.func84, Tryd.ntmps84
  go_wp2_with (first
    | (refine wpList_load_kb rfl 71 (.tmp 3) rfl (w.heap.size + 1) rfl _ (z32.map bv) (by rw [row32]; simpa using KB.new (w.alloc (.cells (z32.map bv).toArray 71)) 71 (z32.map bv).toArray) _ Tryd.underlying71 rfl 32 (by kernel_rfl) rfl ?_)
    | (refine wpList_store_kb rfl 71 (.tmp 2) (.tmp 16) rfl w.heap.size (z32.map bv) rfl rfl 71 (z32.map bv) (by rw [row32]; exact (KB.new _ _ _).alloc _) 32 (by kernel_rfl) rfl rfl (bytes_one' _) ?_; intro W2 k2 g2))
  refine bodyPost_ret (results_cell_row (P := Tryd.prog) rfl _ W2 w.heap.size _ (z32.map bv).toArray (0, 0) _ rfl k2 Tryd.underlying71 rfl (by rw [show (z32.map bv).toArray.size = 32 from rfl]; kernel_rfl)) rfl ⟨rfl, (((Below.refl _ _).alloc (Nat.le_refl _) _).alloc (by simp) _).grown g2 (by simp; omega) (by simp)⟩

theorem slice32 (g m : Nat) (h1 : (m : Int) ≤ 32) (h2 : ¬ 32 = m) (W : World) : (Instr.sliceAt 71 (.pointer (some ⟨g, 0, none⟩)) (some (.int .i64 (m : Int))) none none).run Tryd.prog W = .ok (.slice (some ⟨g, m, none⟩) (32 - m) (32 - m)) W := by
  go_simp

theorem zero74_length : zero74.toList.length = 74 := rfl

set_option maxRecDepth 100000 in
set_option maxHeartbeats 1000000 in
theorem sum_any (g : Nat) (T : List UInt8) (w : World) (hs : HS w g T) (ht : Tab w) (hlen : T.length < 1000000000000000000) :
    Calls Tryd.prog 84 #[.pointer (some ⟨g, 0, none⟩)] w fun e w' => e = .returned (.agg ((sumB T).map bv).toArray) ∧ Below w.heap.size w w' := by
  have hz := zero_hash
  unfold zero74 at hz
  have k32 : KB ((w.alloc (.cells (z32.map bv).toArray 71)).alloc (.cells (z32.map bv).toArray 71)) w.heap.size 71 (z32.map bv).toArray := (KB.new _ _ _).alloc _
  have k33 : KB ((w.alloc (.cells (z32.map bv).toArray 71)).alloc (.cells (z32.map bv).toArray 71)) (w.heap.size + 1) 71 (z32.map bv).toArray := by
    simpa using KB.new (w.alloc (.cells (z32.map bv).toArray 71)) 71 (z32.map bv).toArray
  have B0 : Below w.heap.size w ((w.alloc (.cells (z32.map bv).toArray 71)).alloc (.cells (z32.map bv).toArray 71)) := ((Below.refl _ _).alloc (Nat.le_refl _) _).alloc (by simp) _
  obtain ⟨x, hx, hxt, hk⟩ := hs
  have hk0 := hk.below B0 hk.lt
  have t0 := ht.below B0
  have cs : ((w.alloc (.cells (z32.map bv).toArray 71)).alloc (.cells (z32.map bv).toArray 71)).cell? ⟨g, 72, none⟩ = some (.int .u64 (T.length : Int)) := by rw [hk0.cell, List.getElem?_toArray, hcells_size _ _ _ hx]
  have cm : ((w.alloc (.cells (z32.map bv).toArray 71)).alloc (.cells (z32.map bv).toArray 71)).cell? ⟨g, 73, none⟩ = some (.bool true) := by rw [hk0.cell, List.getElem?_toArray, hcells_made _ _ _ hx]
  have hgl := hk.lt
  have hok := hcells_length (blocksN init8 T (T.length / 64)) x T.length hx
  have Hok := Lib.hid hok
  have Hx := Lib.hid hx
  have Hxt := Lib.hid hxt
  have h1s : ∀ u ∈ hcells (blocksN init8 T (T.length / 64)) x T.length, u.oneCell' = true := by
    intro u hu
    unfold hcells at hu
    simp only [List.mem_append] at hu
    rcases hu with hu | hu | hu
    · exact vals_one _ u hu
    · exact bytes_one _ u hu
    · simp at hu; rcases hu with rfl | rfl <;> rfl
  generalize hcc : hcells (blocksN init8 T (T.length / 64)) x T.length = cc at *
  have HCC := Lib.hid hcc
  clear hok hx hxt hcc
  rw [← row32] at k32 k33 B0 hk0 t0 cs cm
  go_enter Tryd.func84, Tryd.ntmps84
  go_wp2_with (first
    | (refine wpList_load_kb rfl 138 (.tmp 18) rfl g rfl _ cc hk0 _ Tryd.underlying138 rfl 74 (by kernel_rfl) Hok.out ?_)
    | (refine wpList_store_kb rfl 138 (.tmp 4) (.tmp 19) rfl (w.heap.size + 1 + 1) cc rfl rfl 138 zero74.toList (by rw [show zero74.toList.toArray = zero74 from rfl]; simpa [zero74] using KB.new ((w.alloc _).alloc _) _ _) 74 (by kernel_rfl) zero74_length Hok.out h1s ?_
       intro W2 k2 g2
       have B2 : Below w.heap.size w W2 := (B0.alloc B0.size _).grown g2 (by simp; omega) (by simp; omega)
       have hk2 := hk.below B2 hk.lt
       have t2 := ht.below B2
       have k322 := (k32.alloc _).grown g2 (by simp; omega)
       have k332 := (k33.alloc _).grown g2 (by simp)
       have cs2 : W2.cell? ⟨g, 72, none⟩ = some (.int .u64 (T.length : Int)) := by rw [hk2.cell, List.getElem?_toArray, ← HCC.out, hcells_size _ _ _ Hx.out]
       clear g2 k32 k33 B0 hk0 t0 cs cm hz))
  rw [row32] at k322 k332
  refine (ending_any T.length (by omega) _).mono ?_
  rintro e W3 ⟨ge, rfl, hge, ke, b3⟩
  have hge0 : ge ≠ w.heap.size + 1 + 1 := by have := k2.lt; omega
  have z3 := k2.lt
  have k23 := k2.below b3 k2.lt
  have t3 := t2.below b3
  have k323 := k322.below b3 k322.lt
  have k333 := k332.below b3 k332.lt
  have B3 := B2.trans (b3.mono B2.size)
  have hs3 : HS W3 (w.heap.size + 1 + 1) T := ⟨x, Hx.out, Hxt.out, by rw [HCC.out]; exact k23⟩
  have hbe : BS W3 (fun b => b = ge) (.slice (some ⟨ge, 0, none⟩) (endB T.length).length (endB T.length).length) (endB T.length) :=
    ⟨_, _, rfl, Nat.le_refl _, by rw [endB_length]; have := zerosN_lt T.length; simp [maxLen]; omega, (fun h => by cases h), fun _ => ⟨ge, 0, rfl, rfl, ke.lt, fun j u hu => by
      rw [Nat.zero_add, ke.cell, List.getElem?_toArray, List.getElem?_map, hu]; rfl⟩⟩
  clear k2 t2 k322 k332 b3 B2 k23 ke cs2 hk2
  go_wp2_with fail
  refine (write_any _ _ (endB T.length) (w.heap.size + 1 + 1) T _ hs3 hbe (fun h => hge0 h.symm) t3 (by omega) (by rw [endB_length]; have := zerosN_lt T.length; omega)).mono ?_
  rintro e W4 ⟨rfl, hs4, g4⟩
  have k324 := k323.grown g4 (by simp; omega)
  have k334 := k333.grown g4 (by simp)
  have B4 := B3.trans (below_of_grown' g4 (by omega) B3.size)
  clear hs3 hbe t3 k323 k333 B3 g4
  obtain ⟨x4, hx4, _, hk4⟩ := hs4
  have HS4 : Hid (digB (blocksN init8 (T ++ endB T.length) ((T ++ endB T.length).length / 64)) = sumB T) := rfl
  obtain ⟨R, hR⟩ : ∃ R, R = blocksN init8 (T ++ endB T.length) ((T ++ endB T.length).length / 64) := ⟨_, rfl⟩
  rw [← hR] at HS4 hk4
  clear hR
  have rg4 := KB.part (a := []) (b := R.vals) (c := x4.map bv ++ [.int .u64 ((T ++ endB T.length).length : Int), .bool true]) hk4
  go_wp2_with (refine wpList_load_part rfl 98 (.tmp 26) rfl (w.heap.size + 1 + 1) 0 rfl _ rg4 _ Tryd.underlying98 rfl 8 (by kernel_rfl) (vals_length R) ?_)
  clear rg4 hk4 hx4
  go_loopw [28] (fun i wr => ∃ k : Nat, k ≤ 8 ∧ i = .int .i64 k ∧ KB wr (w.heap.size + 1) 71 ((putTo R k).map bv).toArray ∧ W4.grownBy wr (some (w.heap.size + 1))) (fun i _ => 8 - (intOf i).toNat)
  case atStart => exact ⟨0, by omega, rfl, k334, World.grownBy.refl _ _⟩
  case round =>
    obtain ⟨k, hk8, rfl, kk, gk⟩ := hrel
    by_cases h8 : k < 8
    · have hix : ∀ W : World, (Instr.index 98 (.agg R.vals.toArray) (.int .i64 (k : Int))).run Tryd.prog W = .ok (.int .u32 ((wordOf R k : Nat) : Int)) W :=
        fun W => run_index_row W _ 97 8 _ _ k _ Tryd.underlying98 (by kernel_rfl) .u32 Tryd.underlying97 h8 (by rw [List.getElem?_toArray]; exact vals_get R k h8)
      have HP : Hid (putTo R (k + 1) = putW (putTo R k) (4 * k) (wordOf R k)) := rfl
      have hl := putTo_length R k
      obtain ⟨m, hm⟩ : ∃ m, m = 4 * k := ⟨_, rfl⟩
      have hm1 : m + 4 ≤ 32 := by omega
      have h4a : (m : Int) ≤ 32 := by omega
      have h4b : ¬ 32 = m := by omega
      rw [← hm] at HP
      have hsl := slice32 (w.heap.size + 1) m h4a h4b
      have HM := Lib.hid hm
      clear hm
      generalize wordOf R k = wk at *
      have HL := Lib.hid hl
      clear hl
      go_wp2_with fail
      rw [show (4 : Int) * (k : Int) = (m : Int) from by have := HM.out; omega, hsl]
      go_wp2_with fail
      refine (putWord_any (w.heap.size + 1) 71 (putTo R k) m (32 - m) (32 - m) wk (by omega) (by rw [HL.out]; omega) _ kk).mono ?_
      rintro e W5 ⟨rfl, k5, g5⟩
      go_wp2
      go_roundw
      case rel => exact ⟨k + 1, by omega, by go_num, by rw [HP.out]; exact k5, grown_trans gk g5⟩
      case measure => simp [intOf]; omega
    · obtain rfl : k = 8 := by omega
      rw [putTo_all, HS4.out] at kk
      have k9 := k324.grown gk (by simp)
      have B9 := B4.trans (below_of_grown' gk (by omega) B4.size)
      have HU : Hid (((sumB T).map bv).length = 32) := by show _ = _; rw [List.length_map, sumB_length]
      have hu1 := bytes_one' (sumB T)
      generalize hss : (sumB T).map bv = ss at *
      have HSS := Lib.hid hss
      clear hss gk
      go_wp2_with (first
        | (refine wpList_load_kb rfl 71 (.tmp 3) rfl (w.heap.size + 1) rfl _ ss kk _ Tryd.underlying71 rfl 32 (by kernel_rfl) HU.out ?_)
        | (refine wpList_store_kb rfl 71 (.tmp 2) (.tmp 38) rfl w.heap.size ss rfl rfl _ (z32.map bv) k9 32 (by kernel_rfl) rfl HU.out hu1 ?_; intro Wz kz gz))
      refine bodyPost_ret (results_cell_row (P := Tryd.prog) rfl _ Wz w.heap.size _ ss.toArray (0, 0) _ rfl kz Tryd.underlying71 rfl (by rw [show ss.toArray.size = 32 from by simpa using HU.out]; kernel_rfl)) rfl ⟨by rw [HSS.out], B9.trans (below_of_grown' gz (Nat.le_refl _) B9.size)⟩
end Go.Proofs.YtgoifhpinoodgaaDoor
end

section
namespace Go.Proofs.YtgoifhpinoodgaaDoor
open Go.RowKit
set_option maxRecDepth 100000
set_option linter.unusedVariables false

set_option maxRecDepth 100000 in
set_option maxHeartbeats 1000000 in
theorem of_any (v : Value) (ls : List (List UInt8)) (w : World) (h : LS w (fun b => b < w.heap.size) v ls) (ht : Tab w) (hlen : (catB ls).length < 100000000000000000) :
    Calls Tryd.prog 70 #[v] w fun e w' => e = .returned (.agg ((sumB (catB ls)).map bv).toArray) ∧ Below w.heap.size w w' := by
  obtain ⟨A, c, rfl, hc, hm⟩ := h.form
  have hl63 : ls.length ≤ 9223372036854775807 := by unfold maxLen at hm; omega
  go_enter Tryd.func70, Tryd.ntmps70
  go_wp2_with fail
  rw [row32]
  have B0 : Below w.heap.size w (w.alloc (.cells (z32.map bv).toArray 71)) := (Below.refl _ _).alloc (Nat.le_refl _) _
  have k0 : KB (w.alloc (.cells (z32.map bv).toArray 71)) w.heap.size 71 (z32.map bv).toArray := KB.new _ _ _
  generalize w.alloc (.cells (z32.map bv).toArray 71) = W0 at *
  refine (hnew_any _).mono ?_
  rintro e W1 ⟨rfl, hs1, b1⟩
  have k1 := k0.below b1 k0.lt
  have B1 := B0.trans (b1.mono B0.size)
  have h1 := h.below' B1
  have t1 := ht.below B1
  have z0 := k0.lt
  have z1 := k1.lt
  generalize W0.heap.size = g at *
  clear k0 B0 b1 h ht
  go_wp2
  go_loopw [9] (fun i wr => ∃ k : Nat, k ≤ ls.length ∧ i = .int .i64 k ∧ HS wr g (catB (ls.take k)) ∧ W1.grownBy wr (some g)) (fun i _ => ls.length - (intOf i).toNat)
  case atStart => exact ⟨0, by omega, rfl, hs1, World.grownBy.refl _ _⟩
  case round =>
    obtain ⟨k, hk, rfl, hsk, gk⟩ := hrel
    have tk := t1.grown gk (by omega)
    by_cases hlt : k < ls.length
    · have hl := h1.keep gk.size (fun b hb hlt => gk.block b hlt (by simp; omega))
      obtain ⟨b, o, rfl, _, _, hcell⟩ := hl.at_ (by omega)
      obtain ⟨A', c', hx, hbk⟩ := hcell k ls[k] (List.getElem?_eq_getElem hlt)
      have hcat := catB_get_le ls k hlt
      have HC := Lib.hid (catB_take_succ ls k hlt)
      have hki : (k : Int) < ls.length := by omega
      generalize ls[k] = p at *
      clear hcell hl
      go_wp2_with fail
      refine (write_any _ _ p g (catB (ls.take k)) _ hsk hbk (by omega) tk (by omega) (by omega)).mono ?_
      rintro e W2 ⟨rfl, hs2, g2⟩
      go_wp2
      go_roundw
      case rel => exact ⟨k + 1, by omega, by go_num, by rw [HC.out]; exact hs2, grown_trans gk g2⟩
      case measure => simp [intOf]; omega
    · obtain rfl : k = ls.length := by omega
      rw [List.take_length] at hsk
      have k9 := k1.grown gk (by simp; omega)
      have B9 := B1.trans (below_of_grown' gk (by omega) B1.size)
      have HU : Hid (((sumB (catB ls)).map bv).length = 32) := by show _ = _; rw [List.length_map, sumB_length]
      have hu1 := bytes_one' (sumB (catB ls))
      have hsum := sum_any g (catB ls) wr hsk tk (by omega)
      generalize hss : (sumB (catB ls)).map bv = ss at *
      have HSS := Lib.hid hss
      have HSUM := Lib.hid hsum
      clear hss gk hsum
      go_wp2_with fail
      refine HSUM.out.mono ?_
      rintro e W3 ⟨rfl, b3⟩
      have k10 := k9.below b3 k9.lt
      have B10 := B9.trans (b3.mono B9.size)
      go_wp2_with (refine wpList_store_kb rfl 71 (.tmp 2) (.tmp 18) rfl w.heap.size ss rfl rfl _ (z32.map bv) k10 32 (by kernel_rfl) rfl HU.out hu1 ?_; intro Wz kz gz)
      refine bodyPost_ret (results_cell_row (P := Tryd.prog) rfl _ Wz w.heap.size _ ss.toArray (0, 0) _ rfl kz Tryd.underlying71 rfl (by rw [show ss.toArray.size = 32 from by simpa using HU.out]; kernel_rfl)) rfl ⟨by rw [HSS.out], B10.trans (below_of_grown' gz (Nat.le_refl _) B10.size)⟩
end Go.Proofs.YtgoifhpinoodgaaDoor
end
