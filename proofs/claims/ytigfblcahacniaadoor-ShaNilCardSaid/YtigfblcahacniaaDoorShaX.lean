/-
  Hex, and the document's own Hex: each one's contract over the loaded program. No condition.
-/
import Derived.Test.YtigfblcahacniaaDoorShaH
import Derived.Test.YtigfblcahacniaaDoorStr
import Derived.Laws.Concat
namespace Go.Proofs.YtigfblcahacniaaDoor
open Go.RowKit
set_option linter.unusedVariables false

def digS : ByteArray := ⟨#[48, 49, 50, 51, 52, 53, 54, 55, 56, 57, 97, 98, 99, 100, 101, 102]⟩
theorem dig_at (W : World) : (n : Nat) → n < 16 → (Instr.index 9 (.string digS) (.int .u8 (n : Int))).run Tryd.prog W = .ok (bv (hexD n)) W
  | 0, _ => by kernel_rfl
  | 1, _ => by kernel_rfl
  | 2, _ => by kernel_rfl
  | 3, _ => by kernel_rfl
  | 4, _ => by kernel_rfl
  | 5, _ => by kernel_rfl
  | 6, _ => by kernel_rfl
  | 7, _ => by kernel_rfl
  | 8, _ => by kernel_rfl
  | 9, _ => by kernel_rfl
  | 10, _ => by kernel_rfl
  | 11, _ => by kernel_rfl
  | 12, _ => by kernel_rfl
  | 13, _ => by kernel_rfl
  | 14, _ => by kernel_rfl
  | 15, _ => by kernel_rfl
  | n + 16, h => absurd h (by omega)

theorem dig_cut (W : World) : (n : Nat) → n < 16 → (Instr.slice 9 (.string digS) (some (.int .i64 (n : Int))) (some (.int .i64 ((n : Int) + 1))) none).run Tryd.prog W = .ok (.string ⟨#[hexD n]⟩) W
  | 0, _ => by kernel_rfl
  | 1, _ => by kernel_rfl
  | 2, _ => by kernel_rfl
  | 3, _ => by kernel_rfl
  | 4, _ => by kernel_rfl
  | 5, _ => by kernel_rfl
  | 6, _ => by kernel_rfl
  | 7, _ => by kernel_rfl
  | 8, _ => by kernel_rfl
  | 9, _ => by kernel_rfl
  | 10, _ => by kernel_rfl
  | 11, _ => by kernel_rfl
  | 12, _ => by kernel_rfl
  | 13, _ => by kernel_rfl
  | 14, _ => by kernel_rfl
  | 15, _ => by kernel_rfl
  | n + 16, h => absurd h (by omega)

theorem row64 : (#[Value.int .u8 0, Value.int .u8 0, Value.int .u8 0, Value.int .u8 0, Value.int .u8 0, Value.int .u8 0, Value.int .u8 0, Value.int .u8 0, Value.int .u8 0, Value.int .u8 0, Value.int .u8 0, Value.int .u8 0, Value.int .u8 0, Value.int .u8 0, Value.int .u8 0, Value.int .u8 0, Value.int .u8 0, Value.int .u8 0, Value.int .u8 0, Value.int .u8 0, Value.int .u8 0, Value.int .u8 0, Value.int .u8 0, Value.int .u8 0, Value.int .u8 0, Value.int .u8 0, Value.int .u8 0, Value.int .u8 0, Value.int .u8 0, Value.int .u8 0, Value.int .u8 0, Value.int .u8 0, Value.int .u8 0, Value.int .u8 0, Value.int .u8 0, Value.int .u8 0, Value.int .u8 0, Value.int .u8 0, Value.int .u8 0, Value.int .u8 0, Value.int .u8 0, Value.int .u8 0, Value.int .u8 0, Value.int .u8 0, Value.int .u8 0, Value.int .u8 0, Value.int .u8 0, Value.int .u8 0, Value.int .u8 0, Value.int .u8 0, Value.int .u8 0, Value.int .u8 0, Value.int .u8 0, Value.int .u8 0, Value.int .u8 0, Value.int .u8 0, Value.int .u8 0, Value.int .u8 0, Value.int .u8 0, Value.int .u8 0, Value.int .u8 0, Value.int .u8 0, Value.int .u8 0, Value.int .u8 0] : Array Value) = ((List.replicate 64 (0 : UInt8)).map bv).toArray := by kernel_rfl

set_option maxRecDepth 100000 in
set_option maxHeartbeats 1000000 in
theorem hex_any (l : List UInt8) (hl : l.length = 32) (w : World) :
    Calls Tryd.prog 9 #[.agg (l.map bv).toArray] w fun e w' => e = .returned (.string ⟨(hexL l).toArray⟩) ∧ Below w.heap.size w w' := by
  have HL := Lib.hid hl
  clear hl
  have kt0 : KB ((w.alloc (.cells (l.map bv).toArray 24)).alloc (.cells ((List.replicate 64 (0 : UInt8)).map bv).toArray 37)) (w.heap.size + 1) 37 ((List.replicate 64 (0 : UInt8)).map bv).toArray := by
    simpa using KB.new (w.alloc (.cells (l.map bv).toArray 24)) 37 ((List.replicate 64 (0 : UInt8)).map bv).toArray
  have kd0 : KB ((w.alloc (.cells (l.map bv).toArray 24)).alloc (.cells ((List.replicate 64 (0 : UInt8)).map bv).toArray 37)) w.heap.size 24 (l.map bv).toArray := (KB.new _ _ _).alloc _
  have B0 : Below w.heap.size w ((w.alloc (.cells (l.map bv).toArray 24)).alloc (.cells ((List.replicate 64 (0 : UInt8)).map bv).toArray 37)) := ((Below.refl _ _).alloc (Nat.le_refl _) _).alloc (by simp) _
  have hl32 : Hid ((l.map bv).length = 32) := by show _ = _; rw [List.length_map, HL.out]
  rw [← row64] at kt0 kd0 B0
  go_enter Tryd.func9, Tryd.ntmps9
  go_wp2_with (refine wpList_load_kb rfl 24 (.tmp 1) rfl w.heap.size rfl _ (l.map bv) kd0 _ Tryd.underlying24 rfl 32 (by kernel_rfl) hl32.out ?_)
  rw [row64] at kt0 kd0 B0 ⊢
  generalize (w.alloc (.cells (l.map bv).toArray 24)).alloc (.cells ((List.replicate 64 (0 : UInt8)).map bv).toArray 37) = W0 at *
  rw [← hexT_zero l] at kt0
  clear kd0
  go_loopw [7] (fun i wr => ∃ k : Nat, k ≤ 32 ∧ i = .int .i64 k ∧ KB wr (w.heap.size + 1) 37 ((hexT l k).map bv).toArray ∧ W0.grownBy wr (some (w.heap.size + 1))) (fun i _ => 32 - (intOf i).toNat)
  case atStart => exact ⟨0, by omega, rfl, kt0, World.grownBy.refl _ _⟩
  case round =>
    obtain ⟨k, hk, rfl, kt, gk⟩ := hrel
    by_cases hlt : k < 32
    · have hkl : k < l.length := by rw [HL.out]; omega
      have HT := Lib.hid (hexT_set l k HL.out hkl)
      have hTl := hexT_length l k hk HL.out
      have hix : ∀ W : World, (Instr.index 24 (.agg (l.map bv).toArray) (.int .i64 (k : Int))).run Tryd.prog W = .ok (.int .u8 (l[k].toNat : Int)) W :=
        fun W => run_index_row W _ 5 32 _ _ k _ Tryd.underlying24 (by kernel_rfl) .u8 Tryd.underlying5 hlt (by rw [List.getElem?_toArray, List.getElem?_map, List.getElem?_eq_getElem hkl]; rfl)
      generalize l[k] = b at *
      have hb := b.toNat_lt
      have hd1 : ∀ W : World, (Instr.index 9 (.string ⟨#[48, 49, 50, 51, 52, 53, 54, 55, 56, 57, 97, 98, 99, 100, 101, 102]⟩) (.int .u8 ((b.toNat : Int) / 16))).run Tryd.prog W = .ok (.int .u8 ((hexD (b.toNat / 16)).toNat : Int)) W := fun W => dig_at W (b.toNat / 16) (by omega)
      have hd2 : ∀ W : World, (Instr.index 9 (.string ⟨#[48, 49, 50, 51, 52, 53, 54, 55, 56, 57, 97, 98, 99, 100, 101, 102]⟩) (.int .u8 ((b.toNat : Int) % 16))).run Tryd.prog W = .ok (.int .u8 ((hexD (b.toNat % 16)).toNat : Int)) W := fun W => dig_at W (b.toNat % 16) (by omega)
      have hand : bits .and .u8 (b.toNat : Int) 15 = (b.toNat : Int) % 16 := by
        rw [show (15 : Int) = ((15 : Nat) : Int) from rfl, u8_and_nat b.toNat 15 (by omega) (by omega), nat_mask4]
        omega
      generalize hexD (b.toNat / 16) = d1 at *
      generalize hexD (b.toNat % 16) = d2 at *
      have c1 := kt.byte (j := 2 * k) (by omega)
      have c2 := kt.byte (j := 2 * k + 1) (by omega)
      have f1 := kt.free (2 * k)
      have f2 := kt.free (2 * k + 1)
      have h2k : 2 * (k : Int) < 64 := by omega
      have h2k1 : 2 * (k : Int) + 1 < 64 := by omega
      generalize (hexT l k)[2 * k]'(by omega) = q1 at c1
      generalize (hexT l k)[2 * k + 1]'(by omega) = q2 at c2
      have HTl := Lib.hid hTl
      clear hTl
      go_wp2
      go_roundw
      case rel =>
        refine ⟨k + 1, by omega, by go_num, ?_, grown_trans gk (grown_trans (grown_set _ _ _ _) (grown_set _ _ _ _))⟩
        rw [← HT.out]
        exact (kt.set (2 * k) d1).set (2 * k + 1) d2
      case measure => simp [intOf]; omega
    · obtain rfl : k = 32 := by omega
      rw [hexT_all l HL.out] at kt
      have HX : Hid ((hexL l).length = 64) := by show _ = _; rw [hexL_length, HL.out]
      have hbs : BS wr (fun _ => True) (.slice (some ⟨w.heap.size + 1, 0, none⟩) 64 64) (hexL l) :=
        ⟨_, 64, by rw [HX.out], by rw [HX.out]; omega, by simp [maxLen], (fun h => by cases h), fun _ => ⟨w.heap.size + 1, 0, rfl, trivial, kt.lt, fun j u hu => by
          rw [Nat.zero_add, kt.cell, List.getElem?_toArray, List.getElem?_map, hu]; rfl⟩⟩
      have hcv := hbs.str (P := Tryd.prog) Tryd.underlying22 Tryd.underlying5 Tryd.underlying9
      have B9 := B0.trans (below_of_grown' gk (by omega) B0.size)
      clear gk kt hbs
      go_wp2
      go_ret
      exact ⟨rfl, B9⟩

set_option maxRecDepth 100000 in
set_option maxHeartbeats 1000000 in
theorem rhex_any (l : List UInt8) (hl : l.length = 32) (w : World) :
    Calls Tryd.prog 10 #[.agg (l.map bv).toArray] w fun e w' => e = .returned (.string ⟨(hexL l).toArray⟩) ∧ Below w.heap.size w w' := by
  have kd0 : KB (w.alloc (.cells (l.map bv).toArray 24)) w.heap.size 24 (l.map bv).toArray := KB.new _ _ _
  have B0 : Below w.heap.size w (w.alloc (.cells (l.map bv).toArray 24)) := (Below.refl _ _).alloc (Nat.le_refl _) _
  have HL := Lib.hid hl
  clear hl
  go_enter Tryd.func10, Tryd.ntmps10
  go_wp2
  generalize w.alloc (.cells (l.map bv).toArray 24) = W0 at *
  go_loopw [4, 5] (fun s i wr => ∃ k n : Nat, k ≤ 32 ∧ i = .int .i64 k ∧ s = .string ⟨(hexL (l.take k)).toArray⟩ ∧ Hid (wr = W0.drewN n)) (fun _ i _ => 32 - (intOf i).toNat)
  case atStart => exact ⟨0, 0, by omega, rfl, rfl, rfl⟩
  case round =>
    obtain ⟨k, n, hk, rfl, rfl, HW⟩ := hrel
    by_cases hlt : k < 32
    · have hkl : k < l.length := by rw [HL.out]; omega
      have HS : Hid (hexL (l.take (k + 1)) = hexL (l.take k) ++ [hexD (l[k].toNat / 16), hexD (l[k].toNat % 16)]) := by
        show _ = _
        rw [List.take_succ_eq_append_getElem hkl, hexL_snoc]
      have ck : wr.cell? ⟨w.heap.size, k, none⟩ = some (.int .u8 (l[k].toNat : Int)) := by rw [HW.out]; exact kd0.byte hkl
      generalize l[k] = b at *
      have hb := b.toNat_lt
      have hk1 : (k : Int) < 32 := by omega
      generalize hhx : hexL (l.take k) = hx at *
      have HHX := Lib.hid hhx
      clear hhx
      go_wp2
      go_quiet (fail)
      go_wp2
      rw [show (b.toNat : Int) / 16 = ((b.toNat / 16 : Nat) : Int) from by omega, show (b.toNat : Int) % 16 = ((b.toNat % 16 : Nat) : Int) from by omega]
      have m1 : b.toNat / 16 < 16 := by omega
      have m2 : b.toNat % 16 < 16 := by omega
      generalize b.toNat / 16 = x1 at *
      generalize b.toNat % 16 = x2 at *
      have hd1 : ∀ W : World, (Instr.slice 9 (.string ⟨#[48, 49, 50, 51, 52, 53, 54, 55, 56, 57, 97, 98, 99, 100, 101, 102]⟩) (some (.int .i64 (x1 : Int))) (some (.int .i64 ((x1 : Int) + 1))) none).run Tryd.prog W = .ok (.string ⟨#[hexD x1]⟩) W := fun W => dig_cut W x1 m1
      have hd2 : ∀ W : World, (Instr.slice 9 (.string ⟨#[48, 49, 50, 51, 52, 53, 54, 55, 56, 57, 97, 98, 99, 100, 101, 102]⟩) (some (.int .i64 (x2 : Int))) (some (.int .i64 ((x2 : Int) + 1))) none).run Tryd.prog W = .ok (.string ⟨#[hexD x2]⟩) W := fun W => dig_cut W x2 m2
      have hlen : hx.length ≤ 64 := by have := hexL_length (l.take k); rw [HHX.out, List.length_take] at this; omega
      obtain ⟨S1, hS1⟩ : ∃ S1 : ByteArray, S1 = ⟨(hx ++ [hexD x1]).toArray⟩ := ⟨_, rfl⟩
      obtain ⟨S2, hS2⟩ : ∃ S2 : ByteArray, S2 = ⟨(hx ++ [hexD x1, hexD x2]).toArray⟩ := ⟨_, rfl⟩
      have hs1 : ∀ W : World, (Op.stringOp .add ⟨hx.toArray⟩ ⟨#[hexD x1]⟩).run Tryd.prog W = .ok (.string S1) W := fun W => by
        rw [hS1]; exact run_string_add_lists W hx [hexD x1] (by omega) (by simp)
      have hs2 : ∀ W : World, (Op.stringOp .add S1 ⟨#[hexD x2]⟩).run Tryd.prog W = .ok (.string S2) W := fun W => by
        rw [hS1, hS2]
        have := run_string_add_lists (P := Tryd.prog) W (hx ++ [hexD x1]) [hexD x2] (by simp; omega) (by simp)
        rw [this, List.append_assoc]; rfl
      have HS2 := Lib.hid hS2
      clear hS1 hS2
      have w1 : IntKind.i64.wrap ((x1 : Int) + 1) = (x1 : Int) + 1 := IntWalk.i64_in _ (by omega)
      have w2 : IntKind.i64.wrap ((x2 : Int) + 1) = (x2 : Int) + 1 := IntWalk.i64_in _ (by omega)
      have HWn : Hid (∃ n', wr.drewN nq = W0.drewN n') := ⟨n + nq, by rw [HW.out, drewN_twice]⟩
      generalize wr.drewN nq = W1 at *
      clear ck
      go_quiet (fail)
      clear hd1 hd2 w1 w2 hs1 hs2
      go_wp2
      go_roundw
      case rel =>
        obtain ⟨n', hn'⟩ := HWn.out
        exact ⟨k + 1, n' + nq, by omega, by go_num, by rw [HS.out, HS2.out], by show _ = _; rw [hn', drewN_twice]⟩
      case measure => simp [intOf]; omega
    · obtain rfl : k = 32 := by omega
      rw [List.take_of_length_le (by rw [HL.out]; omega)]
      have B9 : Below w.heap.size w wr := by rw [HW.out]; exact Below_drawn B0 n
      go_wp2
      go_ret
      exact ⟨rfl, B9⟩
end Go.Proofs.YtigfblcahacniaaDoor
