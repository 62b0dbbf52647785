/-
  What the statements of layer 8 hand in: Full; num; live; over the loaded program. No condition.
-/
import Derived.Test.YtdmfpgmpjejfgaaDkD
import Derived.Test.YtdmfpgmpjejfgaaDkE
import Derived.Test.YtdmfpgmpjejfgaaSame
namespace Go.Proofs.Ytdmfpgmpjejfgaa
open Go.RowKit
set_option linter.unusedVariables false

def full (c : UInt8) : List UInt8 := List.replicate 256 c
theorem full_len (c : UInt8) : (full c).length = 256 := List.length_replicate
theorem full_inj {c d : UInt8} (h : full c = full d) : c = d := by
  have h1 : c ∈ full d := by rw [← h]; exact List.mem_replicate.2 ⟨by omega, rfl⟩
  exact List.eq_of_mem_replicate h1

/-- num. -/
theorem num8_any (x : Int) (w : World) : Calls Try.prog 7 #[.int .i64 x] w fun e w' => e = .returned (.int .i64 x) ∧ w = w' := by
  go_enter Try.func7, Try.ntmps7
  go_wp2
  go_ret
  exact ⟨rfl, rfl⟩

/-- What Full hands back: a block of 256 bytes c. -/
def Filled (w : World) (c : UInt8) (e : Ending) (w' : World) : Prop :=
  e = .returned (.slice (some ⟨w.heap.size, 0, none⟩) 256 256) ∧ KB w' w.heap.size 5 ((full c).map bv).toArray ∧ Below w.heap.size w w'

theorem fill_at {n k : Nat} (c : Value) (h : k < n) : (List.replicate k c ++ List.replicate (n - k) (bv 0)).toArray[k]? = some (bv 0) := by
  rw [List.getElem?_toArray, List.getElem?_append_right (by rw [List.length_replicate]; exact Nat.le_refl _), List.length_replicate, Nat.sub_self, List.getElem?_replicate, if_pos (by omega)]
theorem fill_set {n k : Nat} (c : Value) (h : k < n) : (List.replicate k c ++ List.replicate (n - k) (bv 0)).toArray.setIfInBounds k c = (List.replicate (k + 1) c ++ List.replicate (n - (k + 1)) (bv 0)).toArray := by
  rw [List.setIfInBounds_toArray, List.set_append_right _ _ (by rw [List.length_replicate]; exact Nat.le_refl _), List.length_replicate, Nat.sub_self]
  obtain ⟨m, hm⟩ : ∃ m, n - k = m + 1 := ⟨n - k - 1, by omega⟩
  rw [hm, List.replicate_succ, List.set_cons_zero, show n - (k + 1) = m from by omega, List.replicate_succ' (n := k)]
  simp

set_option maxRecDepth 100000 in
set_option maxHeartbeats 400000 in
/-- Full. -/
theorem full_any (c : UInt8) (w : World) : Calls Try.prog 9 #[.int .u8 (c.toNat : Int)] w (Filled w c) := by
  obtain ⟨i0, hi, hz0, hz1, hz2⟩ := info_parts info_byte
  obtain ⟨n, hn⟩ : ∃ n, n = 256 := ⟨_, rfl⟩
  have hmk := fun w : World => run_make (P := Try.prog) w 30 5 i0 _ Try.underlying30 hi hz0 .i64 .i64 256 256 (by omega) (by omega) (by rw [hz2]; omega) (by omega)
  rw [hz1] at hmk
  have e256 : (256 : Int).toNat = 256 := rfl
  rw [e256, madeCells_of (.int .u8 0) (bv 0) 1 256 (by omega) rfl, Nat.mul_one] at hmk
  obtain ⟨C, hC⟩ : ∃ C, C = Array.replicate 256 (bv 0) := ⟨_, rfl⟩
  rw [← hC] at hmk
  have k1 : KB (w.alloc (.cells C 5)) w.heap.size 5 (List.replicate 0 (bv c) ++ List.replicate (n - 0) (bv 0)).toArray := by
    rw [List.replicate_zero, List.nil_append, Nat.sub_zero, List.toArray_replicate, hn, ← hC]; exact KB.new _ _ _
  have B1 := (Below.refl w.heap.size w).alloc (Nat.le_refl _) (.cells C 5)
  have HN := Lib.hid hn
  clear e256 hC hi hz0 hz1 hz2 hn
  go_enter Try.func9, Try.ntmps9
  go_wp2
  clear hmk
  go_loopw [4] (fun q wr => ∃ k : Nat, k ≤ 256 ∧ q = .int .i64 k ∧ KB wr w.heap.size 5 (List.replicate k (bv c) ++ List.replicate (n - k) (bv 0)).toArray ∧ Below w.heap.size w wr) (fun q _ => 256 - (Go.RowKit.intOf q).toNat)
  case atStart => exact ⟨0, by omega, rfl, k1, B1⟩
  case round =>
    obtain ⟨k, hk, rfl, kk, B2⟩ := hrel
    clear k1 B1
    by_cases hlt : k < 256
    · have cc := kk.cell k
      have ff := kk.free k
      have HS := Lib.hid (fill_set (n := n) (bv c) (by rw [HN.out]; exact hlt))
      rw [fill_at _ (by rw [HN.out]; exact hlt)] at cc
      go_wp2
      go_roundw
      case rel =>
        have k2 := kk.put k (bv c)
        rw [HS.out] at k2
        exact ⟨k + 1, by omega, by go_num, k2, B2.setCell (p := ⟨w.heap.size, k, none⟩) (Nat.le_refl _) _⟩
      case measure => simp [Go.RowKit.intOf]; omega
    · obtain rfl : k = 256 := by omega
      rw [HN.out, Nat.sub_self, List.replicate_zero, List.append_nil] at kk
      have kf : KB wr w.heap.size 5 ((full c).map bv).toArray := by unfold full; rw [List.map_replicate]; exact kk
      clear kk
      go_wp2
      go_ret
      exact ⟨rfl, kf, B2⟩
end Go.Proofs.Ytdmfpgmpjejfgaa
