/-
  ShaE: What ends a text, and a new Hash: ending and New: each one's contract over the loaded program. No condition but the worlds' shapes that each contract names.
-/
import Derived.Test.YteddmnoeljakpaaGreatDoorSw01
import Derived.Test.YteddmnoeljakpaaGreatDoorSw07
import Derived.Deep.OwnRows
set_option linter.unusedVariables false
set_option maxRecDepth 100000
namespace Go.Proofs.YteddmnoeljakpaaGreatDoor
section
open Go.RowKit
theorem made_bytes (n : Nat) : madeCells #[.int .u8 0] n = ((List.replicate n (0 : UInt8)).map bv).toArray := by
  apply Array.ext
  · simp [madeCells]
  · intro i h1 h2
    simp [madeCells, bv, Nat.mod_one]
theorem ending_any (n : Nat) (hn : n < 1152921504606846976) (w : World) :
    Calls Tryz.prog 195 #[.int .u64 n] w fun e w' => ∃ g, e = .returned (.slice (some ⟨g, 0, none⟩) (endB n).length (endB n).length) ∧ w.heap.size ≤ g ∧ KB w' g 5 ((endB n).map bv).toArray ∧ Below w.heap.size w w' := by
  go_enter Tryz.func195, Tryz.ntmps195
  go_wp2_with fail
  have e1 : (119 - (n : Int) % 64) % 64 = ((zerosN n : Nat) : Int) := by unfold zerosN; omega
  have e2 : (119 - (n : Int)) % 64 = ((zerosN n : Nat) : Int) := by unfold zerosN; omega
  have e3 : 1 + (((zerosN n : Nat) : Int)) + 8 = (((zerosN n + 9 : Nat)) : Int) := by omega
  rw [e1, e2, e3]
  have hz := zerosN_lt n
  have HE : Hid (endB n = endB n) := rfl
  obtain ⟨z, hzz⟩ : ∃ z, z = zerosN n := ⟨_, rfl⟩
  rw [← hzz] at hz ⊢
  have HZ := Lib.hid hzz
  clear e1 e2 e3 hzz HE
  rw [run_make_row' 55 5 (.int .u8 0) 1 Tryz.underlying55 (by kernel_rfl) rfl .i64 .i64 (z + 9) (by omega) (by omega)]
  rw [made_bytes]
  have k1 : KB (w.alloc (.cells ((List.replicate (z + 9) (0 : UInt8)).map bv).toArray 5)) w.heap.size 5 ((List.replicate (z + 9) (0 : UInt8)).map bv).toArray := KB.new _ _ _
  have b1 : Below w.heap.size w (w.alloc (.cells ((List.replicate (z + 9) (0 : UInt8)).map bv).toArray 5)) := (Below.refl _ _).alloc (Nat.le_refl _) _
  generalize w.alloc (.cells ((List.replicate (z + 9) (0 : UInt8)).map bv).toArray 5) = W1 at *
  have c0 : W1.cell? ⟨w.heap.size, 0, none⟩ = some (.int .u8 0) := by
    have := k1.byte (j := 0) (by simp)
    simpa [bv] using this
  have f0 := k1.free 0
  have h1 : (1 : Int) + z ≤ ((z + 9 : Nat) : Int) := by omega
  have h2 : ¬ z + 9 = 1 + z := by omega
  have h3 : z + 9 - (1 + z) = 8 := by omega
  have k2 := k1.set 0 128
  have b2 : Below w.heap.size w (W1.setCell ⟨w.heap.size, 0, none⟩ (bv 128)) := b1.trans (below_of_grown' (grown_set W1 w.heap.size 0 (bv 128)) (Nat.le_refl _) b1.size)
  go_wp2_with fail
  rw [h3, show (n : Int) * 8 / 4294967296 = ((n * 8 / 4294967296 : Nat) : Int) from by omega]
  refine (putWord_any w.heap.size 5 _ (1 + z) 8 8 (n * 8 / 4294967296) (by omega) (by simp; omega) _ k2).mono ?_
  rintro e W2 ⟨rfl, k3, g3⟩
  clear c0 f0 k1 k2
  go_wp2_with fail
  rw [show (n : Int) * 8 % 4294967296 = ((n * 8 % 4294967296 : Nat) : Int) from by omega]
  refine (putWord_any w.heap.size 5 _ (1 + z + 4) 4 4 (n * 8 % 4294967296) (by omega) (by rw [putW_length]; simp; omega) _ k3).mono ?_
  rintro e W3 ⟨rfl, k4, g4⟩
  rw [end_put n z HZ.out] at k4
  have B3 := (b2.trans (below_of_grown' g3 (Nat.le_refl _) b2.size))
  have B4 := B3.trans (below_of_grown' g4 (Nat.le_refl _) B3.size)
  have HL : Hid ((endB n).length = z + 9) := by show _ = _; rw [endB_length, HZ.out]
  go_wp2
  go_ret
  rw [HL.out]
  exact ⟨w.heap.size, rfl, Nat.le_refl _, k4, B4⟩
end
end Go.Proofs.YteddmnoeljakpaaGreatDoor
